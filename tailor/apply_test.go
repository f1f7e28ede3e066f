package tailor_test

import (
	"strings"
	"testing"

	"tailor/tailor"
)

func wantApply(t *testing.T, text string, patch string, want string) {
	t.Helper()
	if got, err, at := tailor.Apply(text, patch); got != want || err != tailor.OK || at != 0 {
		t.Errorf("P7: Apply(%q, %q) = %q, %d, %d, want %q, 0, 0", text, patch, got, err, at, want)
	}
}

func wantHunk(t *testing.T, text string, patch string, number int) {
	t.Helper()
	if got, err, at := tailor.Apply(text, patch); got != "" || err != tailor.ErrHunk || at != number {
		t.Errorf("P7: Apply(%q, %q) = %q, %d, %d, want nothing, %d, %d", text, patch, got, err, at, tailor.ErrHunk, number)
	}
}

func wantLong(t *testing.T, text string, patch string) {
	t.Helper()
	if got, err, at := tailor.Apply(text, patch); got != "" || err != tailor.ErrLong || at != 0 {
		t.Errorf("P7: Apply of %d and %d bytes = %q, %d, %d, want nothing, %d, 0", len(text), len(patch), got, err, at, tailor.ErrLong)
	}
}

func TestApplyChangesLines(t *testing.T) {
	wantApply(t, "a\nb\n", "@@ -1,0 +2 @@\n+x\n", "a\nx\nb\n")
	wantApply(t, "a\nb", "@@ -1,0 +2 @@\n+x\n", "a\nx\nb")
	wantApply(t, "a\nb\nc\n", "@@ -1 +1 @@\n-a\n+x\n", "x\nb\nc\n")
	wantApply(t, "a\nb\nc\n", "@@ -2 +1,0 @@\n-b\n", "a\nc\n")
	wantApply(t, "a\nb\nc\n", "@@ -1,3 +1,2 @@\n a\n-b\n c\n", "a\nc\n")
	wantApply(t, "a\nb\nc\n", "@@ -1,3 +0,0 @@\n-a\n-b\n-c\n", "")
	wantApply(t, "", "@@ -0,0 +1,3 @@\n+a\n+b\n+c\n", "a\nb\nc\n")
	wantApply(t, "a\nb\nc\n", "@@ -3,0 +4,2 @@\n+x\n+y\n", "a\nb\nc\nx\ny\n")
	wantApply(t, "a\nb\nc\n", "@@ -0,0 +1,2 @@\n+x\n+y\n", "x\ny\na\nb\nc\n")
	wantApply(t, "a\nb\nc\n", "@@ -2 +2,2 @@\n+x\n b\n", "a\nx\nb\nc\n")
	wantApply(t, "\n\n\n", "@@ -2 +2 @@\n-\n+x\n", "\nx\n\n")
	wantApply(t, "\x00\xff\r\nb\n", "@@ -1 +1 @@\n-\x00\xff\r\n+\t\n", "\t\nb\n")
}

func TestApplyKeepsTheOrderOfSteps(t *testing.T) {
	wantApply(t, "a\nb\n", "@@ -1,2 +1,5 @@\n+w\n-a\n+x\n b\n+y\n+z\n", "w\nx\nb\ny\nz\n")
	wantApply(t, "a\nb\n", "@@ -2 +2 @@\n+x\n-b\n", "a\nx\n")
}

func TestApplyMakesAllHunks(t *testing.T) {
	text := "a\nb\nc\nd\ne\nf\n"
	wantApply(t, text, "@@ -1 +0,0 @@\n-a\n@@ -3 +2 @@\n-c\n+x\n@@ -6,0 +6 @@\n+z\n", "b\nx\nd\ne\nf\nz\n")
	// Hunks right behind one another.
	wantApply(t, text, "@@ -1 +1 @@\n-a\n+x\n@@ -2 +2 @@\n-b\n+y\n", "x\ny\nc\nd\ne\nf\n")
	wantApply(t, text, "@@ -2,0 +3 @@\n+x\n@@ -2,0 +4 @@\n+y\n@@ -3 +5 @@\n-c\n+z\n", "a\nb\nx\ny\nz\nd\ne\nf\n")
}

func TestApplyOfTheEmptyPatch(t *testing.T) {
	for _, text := range []string{"", "\n", "a", "a\nb", "a\nb\n", strings.Repeat("a", maxText)} {
		wantApply(t, text, "", text)
	}
	wantLong(t, strings.Repeat("a", maxText+1), "")
}

func TestApplyOfBareLines(t *testing.T) {
	wantApply(t, "a\nb", "@@ -2 +2 @@\n-b\n"+bare+"+b\n", "a\nb\n")
	wantApply(t, "a\nb\n", "@@ -2 +2 @@\n-b\n+b\n"+bare, "a\nb")
	wantApply(t, "a\nb", "@@ -2 +2 @@\n-b\n"+bare+"+c\n"+bare, "a\nc")
	wantApply(t, "a\nb", "@@ -1,2 +1,2 @@\n-a\n+x\n b\n"+bare, "x\nb")
	wantApply(t, "a\nb", "@@ -1 +1 @@\n-a\n+x\n", "x\nb")
	wantApply(t, "a\nb", "@@ -2 +1,0 @@\n-b\n"+bare, "a\n")
	wantApply(t, "a\n", "@@ -1,0 +2 @@\n+b\n"+bare, "a\nb")
	wantApply(t, "", "@@ -0,0 +1 @@\n+b\n"+bare, "b")
	wantApply(t, "a", "@@ -1 +1,2 @@\n-a\n"+bare+"+a\n+b\n"+bare, "a\nb")
	wantApply(t, "a\n", "@@ -1 +1 @@\n+b\n"+bare+"-a\n", "b")
}

func TestApplyWhereTheSpanIsNotInTheText(t *testing.T) {
	wantHunk(t, "a\nb\n", "@@ -3 +3 @@\n-c\n+x\n", 0)
	wantHunk(t, "a\nb\n", "@@ -3,0 +4 @@\n+x\n", 0)
	wantHunk(t, "a\nb\n", "@@ -2,2 +2 @@\n-b\n-c\n+x\n", 0)
	wantHunk(t, "a\nb\n", "@@ -9999 +9999 @@\n-b\n+x\n", 0)
	wantHunk(t, "a\nb\n", "@@ -9998,0 +9999 @@\n+x\n", 0)
	wantHunk(t, "", "@@ -1 +1 @@\n-a\n+x\n", 0)
	wantHunk(t, "", "@@ -1,0 +2 @@\n+x\n", 0)
	wantHunk(t, "a\nb\n", "@@ -1 +1 @@\n-a\n+x\n@@ -3 +3 @@\n-c\n+x\n", 1)
	// A line that came does not make room for an old span.
	wantHunk(t, "a\n", "@@ -1,0 +2 @@\n+b\n@@ -2 +3 @@\n-b\n+x\n", 1)
}

func TestApplyWhereAnotherLineStands(t *testing.T) {
	wantHunk(t, "a\nb\n", "@@ -2 +2 @@\n-x\n+c\n", 0)
	wantHunk(t, "a\nb\n", "@@ -1,2 +1,2 @@\n x\n-b\n+c\n", 0)
	wantHunk(t, "a\nb\n", "@@ -1,2 +1,2 @@\n-a\n+c\n x\n", 0)
	wantHunk(t, "a\nb\n", "@@ -1 +1 @@\n-b\n+c\n", 0)
	wantHunk(t, "a\nb\n", "@@ -2 +2 @@\n-b \n+c\n", 0)
	wantHunk(t, "a\nb\n", "@@ -2 +2 @@\n-B\n+c\n", 0)
	wantHunk(t, "a\n\xff\n", "@@ -2 +2 @@\n-\uFFFD\n+c\n", 0)
	wantHunk(t, "a\nb\nc\n", "@@ -1 +1 @@\n-a\n+x\n@@ -3 +3 @@\n-b\n+y\n", 1)
	// The first of those that do not fit is told.
	wantHunk(t, "a\nb\nc\n", "@@ -1 +1 @@\n-a\n+x\n@@ -2 +2 @@\n-c\n+y\n@@ -3 +3 @@\n-b\n+z\n", 1)
	wantHunk(t, "a\nb\nc\n", "@@ -1 +1 @@\n-x\n+y\n@@ -9 +9 @@\n-x\n+y\n", 0)
	// A hunk is held against the old text, not against what the one ahead made.
	wantHunk(t, "a\nb\n", "@@ -1 +1,2 @@\n-a\n+x\n+y\n@@ -2 +3 @@\n-y\n+z\n", 1)
}

func TestApplyWhereALineIsBareInOneAlone(t *testing.T) {
	wantHunk(t, "a\nb", "@@ -2 +2 @@\n-b\n+c\n", 0)
	wantHunk(t, "a\nb", "@@ -1,2 +1,2 @@\n-a\n+c\n b\n", 0)
	wantHunk(t, "a\nb\n", "@@ -2 +2 @@\n-b\n"+bare+"+c\n", 0)
	wantHunk(t, "a\nb\n", "@@ -1,2 +1,2 @@\n-a\n+c\n b\n"+bare, 0)
}

func TestApplyWhereABareLineIsNotAtTheEnd(t *testing.T) {
	wantHunk(t, "a\nb\n", "@@ -1 +1 @@\n-a\n+c\n"+bare, 0)
	wantHunk(t, "a\nb\n", "@@ -1 +1 @@\n-a\n"+bare+"+c\n", 0)
	wantHunk(t, "a\nb\n", "@@ -1,0 +2 @@\n+c\n"+bare, 0)
	wantHunk(t, "a\nb\nc\n", "@@ -1 +1 @@\n-a\n+x\n@@ -2 +2 @@\n-b\n+y\n"+bare, 1)
	wantHunk(t, "a\nb", "@@ -1 +1 @@\n-a\n+x\n"+bare, 0)
}

func TestApplyWhereABareLineWouldStandAheadOfOthers(t *testing.T) {
	wantHunk(t, "a\nb", "@@ -2,0 +3 @@\n+c\n", 0)
	wantHunk(t, "a\nb", "@@ -2,0 +3 @@\n+c\n"+bare, 0)
	wantHunk(t, "b", "@@ -1,0 +2,2 @@\n+c\n+d\n", 0)
	wantHunk(t, "a\nb", "@@ -1 +1 @@\n-a\n+x\n@@ -2,0 +3 @@\n+c\n", 1)
	// Each of these fits, so it is the last one that is told.
	wantHunk(t, "a\nb", "@@ -2,0 +3 @@\n+c\n@@ -2,0 +4 @@\n+d\n", 1)
	wantHunk(t, "a\nb", "@@ -2,0 +3 @@\n+c\n@@ -2,0 +4 @@\n+d\n@@ -2,0 +5 @@\n+e\n", 2)
	// One that does not fit at all comes ahead of that.
	wantHunk(t, "a\nb", "@@ -2,0 +3 @@\n+c\n@@ -3,0 +5 @@\n+d\n@@ -3,0 +6 @@\n+e\n", 1)
}

func TestApplyUpToTheBound(t *testing.T) {
	full := strings.Repeat("a\n", maxText/2)
	wantApply(t, full, "@@ -1 +1 @@\n-a\n+b\n", "b\n"+full[2:])
	wantApply(t, full, "@@ -0,0 +1 @@\n+\n@@ -1 +2 @@\n-a\n+\n", "\n\n"+full[2:])
	wantApply(t, full[2:], "@@ -0,0 +1 @@\n+b\n", "b\n"+full[2:])
	wantApply(t, full[2:], "@@ -149,0 +150 @@\n+bc\n"+bare, full[2:]+"bc")
	wantApply(t, "", "@@ -0,0 +1 @@\n+"+strings.Repeat("a", maxText)+"\n"+bare, strings.Repeat("a", maxText))
}

func TestApplyAboveTheBound(t *testing.T) {
	full := strings.Repeat("a\n", maxText/2)
	wantLong(t, full, "@@ -0,0 +1 @@\n+\n")
	wantLong(t, full, "@@ -1 +1 @@\n-a\n+bc\n")
	wantLong(t, full[2:], "@@ -149,0 +150 @@\n+bc\n")
	wantLong(t, "", "@@ -0,0 +1 @@\n+"+strings.Repeat("a", maxText)+"\n")
	wantLong(t, "", "@@ -0,0 +1 @@\n+"+strings.Repeat("a", maxText+1)+"\n"+bare)
	// A text above the bound is told ahead of a patch that is none.
	wantLong(t, full+"a", "x")
	wantLong(t, full+"a", "@@ -1 +1 @@\n-a\n+\n@@ -2,0 +2,0 @@\n")
	wantLong(t, full+"a", strings.Repeat("x", maxPatch+1))
	wantLong(t, full+"a", "@@ -1 +0,0 @@\n-a\n")
	// What does not fit is told ahead of what comes out above the bound.
	wantHunk(t, full, "@@ -0,0 +1 @@\n+\n@@ -2 +3 @@\n-b\n+c\n", 1)
	wantHunk(t, full[:maxText-1], "@@ -150,0 +151 @@\n+bbb\n", 0)
}
