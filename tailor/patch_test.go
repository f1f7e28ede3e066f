package tailor_test

import (
	"strings"
	"testing"

	"tailor/tailor"
)

// wantForm asks both calls that read a patch: they must refuse it alike.
func wantForm(t *testing.T, patch string, place int) {
	t.Helper()
	if got, err, at := tailor.Apply("a\nb\nc\nd\n", patch); got != "" || err != tailor.ErrForm || at != place {
		t.Errorf("P6: Apply of %.200q = %.200q, %d, %d, want nothing, %d, %d", patch, got, err, at, tailor.ErrForm, place)
	}
	if got, err, at := tailor.Reverse(patch); got != "" || err != tailor.ErrForm || at != place {
		t.Errorf("P6: Reverse of %.200q = %.200q, %d, %d, want nothing, %d, %d", patch, got, err, at, tailor.ErrForm, place)
	}
}

// wantBroken is for a patch that is fine up to rest, and refused there.
func wantBroken(t *testing.T, fine string, rest string) {
	t.Helper()
	wantForm(t, fine+rest, len(fine))
}

func wantPatch(t *testing.T, patch string) {
	t.Helper()
	if _, err, at := tailor.Apply("a\nb\nc\nd\n", patch); err == tailor.ErrForm {
		t.Errorf("P6: Apply of %.200q tells that it is no patch, at %d", patch, at)
	}
	if got, err, at := tailor.Reverse(patch); len(got) != len(patch) || err != tailor.OK || at != 0 {
		t.Errorf("P6: Reverse of %.200q = %.200q, %d, %d, want OK", patch, got, err, at)
	}
}

func TestSpansOfNoneOneAndMoreLines(t *testing.T) {
	for _, patch := range []string{
		"",
		"@@ -1 +1 @@\n-a\n+x\n",
		"@@ -1,2 +1 @@\n-a\n-b\n+x\n",
		"@@ -1 +1,2 @@\n-a\n+x\n+y\n",
		"@@ -0,0 +1 @@\n+x\n",
		"@@ -1 +0,0 @@\n-a\n",
		"@@ -4,0 +5,3 @@\n+x\n+y\n+z\n",
		"@@ -4,3 +3,0 @@\n-x\n-y\n-z\n",
		"@@ -1,10 +1,9 @@\n-a\n" + strings.Repeat(" \n", 9),
	} {
		wantPatch(t, patch)
	}
}

func TestStepsOfAnyBytesInAnyOrder(t *testing.T) {
	for _, patch := range []string{
		"@@ -1,3 +1,3 @@\n a\n+x\n-b\n c\n",
		"@@ -1,3 +1,3 @@\n-a\n b\n+x\n c\n",
		"@@ -1 +1 @@\n-\n+\n",
		"@@ -1 +1 @@\n--- a\n++++ a\n",
		"@@ -1 +1 @@\n-@@ -1 +1 @@\n+" + bare,
		"@@ -1 +1 @@\n-\x00\xff\r\n+\t \n",
	} {
		wantPatch(t, patch)
	}
}

func TestNumbersOfOneToFourDigits(t *testing.T) {
	for _, number := range []string{"1", "9", "10", "100", "999", "1000", "9999"} {
		wantPatch(t, "@@ -"+number+" +"+number+" @@\n-a\n+x\n")
		wantPatch(t, "@@ -"+number+",2 +"+number+" @@\n-a\n-b\n+x\n")
	}
	wantPatch(t, "@@ -0,0 +1,9999 @@\n"+strings.Repeat("+\n", 9999))
	wantPatch(t, "@@ -9999,9999 +9998,0 @@\n"+strings.Repeat("-\n", 9999))
	for _, number := range []string{
		"", "00", "01", "0001", "00000", "10000", "99999999999999999999",
		"-1", "+1", "1 ", " 1", "1.0", "1e2", "0x1", "1_0", "a", "/", ":", "٣", "1\x00",
	} {
		wantForm(t, "@@ -"+number+" +1 @@\n-a\n+x\n", 0)
		wantForm(t, "@@ -1 +"+number+" @@\n-a\n+x\n", 0)
		wantForm(t, "@@ -"+number+",2 +1 @@\n-a\n-b\n+x\n", 0)
		wantForm(t, "@@ -1,"+number+" +1 @@\n-a\n-b\n+x\n", 0)
		wantForm(t, "@@ -1 +1,"+number+" @@\n-a\n+x\n+y\n", 0)
	}
}

func TestSpansThatAreNone(t *testing.T) {
	for _, span := range []string{"2,1", "2,01", "2,00", "2,", ",2", ",", "2,2,2", "2,0,", "0", "0,1", "0,2"} {
		wantForm(t, "@@ -"+span+" +2 @@\n-b\n+x\n", 0)
		wantForm(t, "@@ -2 +"+span+" @@\n-b\n+x\n", 0)
		wantForm(t, "@@ -"+span+" +"+span+" @@\n-b\n-c\n+x\n+y\n", 0)
	}
}

func TestHeadsThatAreNone(t *testing.T) {
	first := "@@ -1 +1 @@\n-a\n+y\n"
	for _, head := range []string{
		"", " ", "@", "@@", "@@ ", "@@ -", "@@ -2", "@@ -2 ", "@@ -2 @@", "@@ -2 +2", "@@ -2 +2 ", "@@ -2 +2 @",
		"@@ -2 +2 @@ ", "@@ -2 +2 @@@", "@@ -2 +2 @@ main", "@@ -2 +2 @@\r", "@@ -2 +2@@", "@@-2 +2 @@", "@@ -2+2 @@",
		"@@  -2 +2 @@", "@@ -2  +2 @@", "@@ -2 +2  @@", "@@ -2 -2 @@", "@@ +2 -2 @@", "@@ 2 2 @@", " @@ -2 +2 @@",
		"@ -2 +2 @@", "@@@ -2 +2 @@", "@@ -2 +2 +2 @@", "@@ -2 + 2 @@", "@@ - +2 @@", "@@ -2 + @@", "@@ - + @@", "@@ -@@",
		"x", "-b", "+x", " b", "--- a", "+++ a",
	} {
		wantForm(t, head+"\n-b\n+x\n", 0)
		wantBroken(t, first, head+"\n-b\n+x\n")
	}
}

func TestSpansThatAreBothOfNoLines(t *testing.T) {
	wantForm(t, "@@ -0,0 +0,0 @@\n", 0)
	wantForm(t, "@@ -2,0 +2,0 @@\n", 0)
	wantForm(t, "@@ -2,0 +2,0 @@\n-b\n", 0)
	wantForm(t, "@@ -2,0 +2,0 @@\n@@ -3 +3 @@\n-c\n+x\n", 0)
	wantBroken(t, "@@ -1 +1 @@\n-a\n+y\n", "@@ -2,0 +2,0 @@\n")
}

func TestHunksStandBehindTheOneAhead(t *testing.T) {
	first := "@@ -2,2 +2 @@\n b\n-c\n"
	for _, head := range []string{"-4 +3", "-5 +4", "-9 +8", "-3,0 +3", "-4 +2,0", "-4,0 +4", "-5 +3,0"} {
		steps := "-d\n+x\n"
		if strings.HasPrefix(head[2:], ",0") {
			steps = "+x\n"
		}
		if strings.HasSuffix(head, ",0") {
			steps = "-d\n"
		}
		wantPatch(t, first+"@@ "+head+" @@\n"+steps)
	}
	for _, head := range []string{
		"-3 +2", "-3 +3", "-2 +2", "-1 +1", "-4 +4", "-4 +2", "-5 +3", "-5 +5", "-4 +5",
		"-2,0 +2", "-2,0 +3", "-3,0 +2", "-3,0 +4", "-4,0 +3", "-3 +2,0", "-4 +3,0", "-4 +1,0", "-5 +4,0", "-1 +0,0", "-0,0 +1",
	} {
		wantBroken(t, first, "@@ "+head+" @@\n-d\n+x\n")
	}
}

func TestAThirdHunkStandsBehindTheSecond(t *testing.T) {
	two := "@@ -1 +0,0 @@\n-a\n@@ -2,0 +2,2 @@\n+x\n+y\n"
	wantPatch(t, two+"@@ -3 +4 @@\n-c\n+z\n")
	wantPatch(t, two+"@@ -4 +5 @@\n-d\n+z\n")
	wantBroken(t, two, "@@ -3 +2 @@\n-c\n+z\n")
	wantBroken(t, two, "@@ -3 +3 @@\n-c\n+z\n")
	wantBroken(t, two, "@@ -2 +3 @@\n-b\n+z\n")
}

// Nothing changes ahead of the first hunk, so as many lines stand there in the
// new text as in the old one.
func TestTheFirstHunkStandsAlikeInBothTexts(t *testing.T) {
	wantForm(t, "@@ -1 +2 @@\n-a\n+x\n", 0)
	wantForm(t, "@@ -2 +1 @@\n-b\n+x\n", 0)
	wantForm(t, "@@ -1,0 +1 @@\n+x\n", 0)
	wantForm(t, "@@ -1 +1,0 @@\n-a\n", 0)
	wantForm(t, "@@ -0,0 +2 @@\n+x\n", 0)
}

func TestStepsThatAreNone(t *testing.T) {
	for _, line := range []string{"", "\t", "*b", "b", "\\", "\\ b", "@@ -2 +2 @@", "_", "\x00", "\xff", "\r", "\u00a0b", "\u2212b"} {
		wantBroken(t, "@@ -2 +2 @@\n", line+"\n+x\n")
		wantBroken(t, "@@ -2 +2 @@\n-b\n", line+"\n")
		wantBroken(t, "@@ -1,2 +1,2 @@\n a\n-b\n", line+"\n")
	}
}

func TestStepsThatAreOneTooMany(t *testing.T) {
	wantBroken(t, "@@ -2 +2 @@\n-b\n", "-c\n+x\n")
	wantBroken(t, "@@ -2 +2 @@\n-b\n", " c\n+x\n")
	wantBroken(t, "@@ -2 +2 @@\n+x\n", "+y\n-b\n")
	wantBroken(t, "@@ -2 +2 @@\n+x\n", " b\n")
	wantBroken(t, "@@ -1,0 +2 @@\n", "-b\n")
	wantBroken(t, "@@ -1,0 +2 @@\n", " b\n")
	wantBroken(t, "@@ -2 +1,0 @@\n", "+b\n")
	wantBroken(t, "@@ -2 +1,0 @@\n", " b\n")
	wantBroken(t, "@@ -1,2 +1,3 @@\n a\n b\n", " c\n")
	wantBroken(t, "@@ -1,3 +1,2 @@\n a\n b\n", "+c\n")
	// Behind a full hunk only a head can stand.
	wantBroken(t, "@@ -2 +2 @@\n-b\n+x\n", "+y\n")
	wantBroken(t, "@@ -2 +2 @@\n-b\n+x\n", "-c\n")
	wantBroken(t, "@@ -2 +2 @@\n-b\n+x\n", " c\n")
}

func TestWhatIsMissing(t *testing.T) {
	wantBroken(t, "@@ -2 +2 @@\n", "")
	wantBroken(t, "@@ -2 +2 @@\n-b\n", "")
	wantBroken(t, "@@ -2 +2 @@\n+x\n", "")
	wantBroken(t, "@@ -1,3 +1,2 @@\n a\n-b\n", "")
	wantBroken(t, "@@ -1,2 +1,2 @@\n a\n", "")
	wantBroken(t, "@@ -2 +2 @@\n-b\n", "@@ -3 +3 @@\n-c\n+x\n")
	wantBroken(t, "@@ -2 +2 @@\n-b\n"+bare, "")
}

// A patch that is cut off anywhere but behind a hunk is refused at the line
// that breaks off, or at its end.
func TestLinesThatBreakOff(t *testing.T) {
	first := "@@ -1 +1 @@\n-a\n+x\n"
	second := "@@ -3,2 +3,2 @@\n c\n-d\n" + bare + "+y\n"
	patch := first + second + bare
	for end := range len(patch) {
		cut := patch[:end]
		if cut == "" || cut == first || cut == first+second {
			wantPatch(t, cut)
			continue
		}
		wantForm(t, cut, strings.LastIndexByte(cut, '\n')+1)
	}
	wantPatch(t, patch)
	wantBroken(t, first, "x")
	wantBroken(t, "", "x")
}

func TestWhereBareLinesCanBe(t *testing.T) {
	for _, patch := range []string{
		"@@ -1 +1 @@\n-a\n" + bare + "+a\n",
		"@@ -1 +1 @@\n-a\n+a\n" + bare,
		"@@ -1 +1 @@\n-a\n" + bare + "+b\n" + bare,
		"@@ -1 +1 @@\n+b\n" + bare + "-a\n" + bare,
		"@@ -1 +1 @@\n+b\n" + bare + "-a\n",
		"@@ -1,2 +1 @@\n-a\n b\n" + bare,
		"@@ -1 +0,0 @@\n-a\n" + bare,
		"@@ -0,0 +1 @@\n+a\n" + bare,
		"@@ -1 +1,3 @@\n-a\n" + bare + "+x\n+y\n+z\n" + bare,
		"@@ -1 +1 @@\n-a\n+ \n" + bare,
		"@@ -1 +1 @@\n-a\n+x\n@@ -2 +2 @@\n-b\n+y\n" + bare,
	} {
		wantPatch(t, patch)
	}
}

func TestWhereBareLinesCannotBe(t *testing.T) {
	wantBroken(t, "", bare)
	wantBroken(t, "", bare+"@@ -1 +1 @@\n-a\n+x\n")
	wantBroken(t, "@@ -1 +1 @@\n", bare+"-a\n+x\n")
	wantBroken(t, "@@ -1,2 +1 @@\n-a\n", bare+"-b\n+x\n")
	wantBroken(t, "@@ -1,2 +1 @@\n-a\n", bare+" b\n")
	wantBroken(t, "@@ -1 +1,2 @@\n+x\n", bare+"+y\n-a\n")
	wantBroken(t, "@@ -1 +1,2 @@\n-a\n+x\n", bare+"+y\n")
	wantBroken(t, "@@ -1,2 +1,2 @@\n a\n", bare+"-b\n+x\n")
	wantBroken(t, "@@ -1,2 +1 @@\n a\n", bare+"-b\n")
	wantBroken(t, "@@ -1 +1,2 @@\n a\n", bare+"+b\n")
	// Two such lines are one too many.
	wantBroken(t, "@@ -1 +1 @@\n-a\n"+bare, bare+"+x\n")
	wantBroken(t, "@@ -1 +1 @@\n-a\n+x\n"+bare, bare)
	// A line of no bytes that has no end is no line.
	wantBroken(t, "@@ -1 +1 @@\n-\n", bare+"+x\n")
	wantBroken(t, "@@ -1 +1 @@\n-a\n+\n", bare)
	wantBroken(t, "@@ -1,2 +1 @@\n-a\n \n", bare)
}

func TestOtherLinesAboutABareLine(t *testing.T) {
	for _, line := range []string{
		"\\", "\\ ", "\\ No newline at end of file ", "\\ No newline at end of fil", "\\No newline at end of file",
		"\\ no newline at end of file", " \\ No newline at end of file", "\\ No newline at end of file\r",
	} {
		wantBroken(t, "@@ -1 +1 @@\n-a\n+x\n", line+"\n")
		if line[0] == '\\' {
			wantBroken(t, "@@ -1 +1 @@\n-a\n", line+"\n+x\n")
		}
	}
}

func TestNoHunkStandsBehindABareLine(t *testing.T) {
	next := "@@ -2 +2 @@\n-b\n+y\n"
	wantPatch(t, "@@ -1 +1 @@\n-a\n+x\n"+next)
	wantBroken(t, "@@ -1 +1 @@\n-a\n"+bare+"+x\n", next)
	wantBroken(t, "@@ -1 +1 @@\n-a\n+x\n"+bare, next)
	wantBroken(t, "@@ -1 +1 @@\n+x\n"+bare+"-a\n", next)
	wantBroken(t, "@@ -1,2 +1 @@\n-a\n b\n"+bare, "@@ -2,0 +2 @@\n+y\n")
	wantBroken(t, "@@ -1 +1 @@\n-a\n+x\n"+bare, "x")
}

func TestHunksInWhichNothingGoesOrComes(t *testing.T) {
	wantForm(t, "@@ -2 +2 @@\n b\n", 0)
	wantForm(t, "@@ -1,3 +1,3 @@\n a\n b\n c\n", 0)
	wantForm(t, "@@ -2 +2 @@\n b\n"+bare, 0)
	wantBroken(t, "@@ -1 +1 @@\n-a\n+x\n", "@@ -2 +2 @@\n b\n")
	wantBroken(t, "@@ -1 +1 @@\n-a\n+x\n", "@@ -2 +2 @@\n b\n@@ -3 +3 @@\n-c\n+y\n")
	// It is looked at behind the last step, ahead of what follows.
	wantForm(t, "@@ -2 +2 @@\n b\nx", 0)
	wantForm(t, "@@ -2 +2 @@\n b\n c\n", 0)
	wantForm(t, "@@ -2 +2 @@\n \n"+bare, 0)
	// A step that cannot stand there is found ahead of it.
	wantBroken(t, "@@ -1,2 +1,2 @@\n a\n", "x\n")
	wantBroken(t, "@@ -1,2 +1,2 @@\n a\n", " b")
	wantBroken(t, "@@ -1,2 +1,2 @@\n a\n", bare+" b\n")
}

func TestTheFirstFaultIsTold(t *testing.T) {
	wantForm(t, "x\n@@ -1 +1 @@\n b\n", 0)
	wantBroken(t, "@@ -1 +1 @@\n", "x\n@@ -0 +0 @@\n")
	wantBroken(t, "@@ -1 +1 @@\n-a\n+x\n", "@@ -1 +1 @@\n b\n"+bare+bare)
}

func TestPatchesUpToTheBound(t *testing.T) {
	head, end := "@@ -1 +0,0 @@\n-", "\n"
	long := head + strings.Repeat("a", maxPatch-len(head)-len(end)) + end
	if got, err, at := tailor.Reverse(long); len(got) != maxPatch || err != tailor.OK || at != 0 {
		t.Errorf("P6: Reverse of %d bytes has %d, tells %d, %d", len(long), len(got), err, at)
	}
	if got, err, at := tailor.Apply("a\n", long); got != "" || err != tailor.ErrHunk || at != 0 {
		t.Errorf("P6: Apply of %d bytes = %.200q, %d, %d, want nothing, %d, 0", len(long), got, err, at, tailor.ErrHunk)
	}
}

func TestPatchesAboveTheBound(t *testing.T) {
	head, end := "@@ -1 +0,0 @@\n-", "\n"
	for _, patch := range []string{
		head + strings.Repeat("a", maxPatch+1-len(head)-len(end)) + end,
		strings.Repeat("x", maxPatch+1),
		"@@ -1 +1 @@\n-a\n+x\n" + strings.Repeat("\n", maxPatch),
	} {
		if got, err, at := tailor.Reverse(patch); got != "" || err != tailor.ErrLong || at != 0 {
			t.Errorf("P6: Reverse of %d bytes = %.200q, %d, %d, want nothing, %d, 0", len(patch), got, err, at, tailor.ErrLong)
		}
		if got, err, at := tailor.Apply("a\n", patch); got != "" || err != tailor.ErrLong || at != 0 {
			t.Errorf("P6: Apply of %d bytes = %.200q, %d, %d, want nothing, %d, 0", len(patch), got, err, at, tailor.ErrLong)
		}
	}
}
