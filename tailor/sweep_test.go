package tailor_test

import (
	"maps"
	"strings"
	"testing"

	"tailor/tailor"
)

// wantLikeSlow holds the program's answers for a patch against the slow ones,
// and undoes what was done.
func wantLikeSlow(t *testing.T, texts []string, patch string) {
	t.Helper()
	back, err, at := tailor.Reverse(patch)
	wantBack, wantErr, wantAt := slowReverse(patch)
	if back != wantBack || err != wantErr || at != wantAt {
		t.Fatalf("P6, P8: Reverse(%q) = %q, %d, %d, want %q, %d, %d", patch, back, err, at, wantBack, wantErr, wantAt)
	}
	for _, text := range texts {
		got, err, at := tailor.Apply(text, patch)
		want, wantErr, wantAt := slowApply(text, patch)
		if got != want || err != wantErr || at != wantAt {
			t.Fatalf("P6, P7: Apply(%q, %q) = %q, %d, %d, want %q, %d, %d", text, patch, got, err, at, want, wantErr, wantAt)
		}
		if err != tailor.OK {
			continue
		}
		if undone, err, _ := tailor.Apply(got, back); undone != text || err != tailor.OK {
			t.Fatalf("P8: Apply(%q, %q) = %q, %d, want %q, 0", got, back, undone, err, text)
		}
	}
}

// rowsOf are all rows of at most so many of these lines.
func rowsOf(lines []string, most int) []string {
	all := []string{""}
	longest := all
	for range most {
		var longer []string
		for _, row := range longest {
			for _, line := range lines {
				longer = append(longer, row+line)
			}
		}
		all = append(all, longer...)
		longest = longer
	}
	return all
}

func TestAllShortRowsOfSteps(t *testing.T) {
	lines := []string{" a\n", "-a\n", "+a\n", "+\n", "-b\n", bare, "@@ -2 +2 @@\n", "x\n"}
	texts := []string{"", "a", "a\n", "a\na", "a\nb", "a\na\n", "a\na\na\n"}
	for _, head := range []string{"", "@@ -1 +1 @@\n", "@@ -1,2 +1 @@\n", "@@ -1 +1,2 @@\n", "@@ -1,2 +1,2 @@\n", "@@ -0,0 +1,2 @@\n", "@@ -1,2 +0,0 @@\n", "@@ -1,0 +2 @@\n"} {
		for _, row := range rowsOf(lines, 4) {
			wantLikeSlow(t, texts, head+row)
		}
	}
}

func TestAllPairsOfHunks(t *testing.T) {
	var hunks []string
	for _, ahead := range []string{"0", "1", "2", "3"} {
		next := string(ahead[0] + 1)
		for _, other := range []string{"0", "1", "2", "3"} {
			nextOther := string(other[0] + 1)
			hunks = append(hunks,
				"@@ -"+ahead+",0 +"+nextOther+" @@\n+x\n",
				"@@ -"+next+" +"+other+",0 @@\n-a\n",
				"@@ -"+next+" +"+nextOther+" @@\n-a\n+x\n",
				"@@ -"+next+" +"+nextOther+" @@\n-a\n+x\n"+bare,
				"@@ -"+next+",2 +"+nextOther+" @@\n a\n-a\n"+bare,
			)
		}
	}
	texts := []string{"", "a", "a\n", "a\na", "a\na\n", "a\na\na", "a\na\na\na\n"}
	for _, patch := range rowsOf(hunks, 2) {
		wantLikeSlow(t, texts, patch)
	}
}

// nearTo are the patches that differ from one in a byte or in a line.
func nearTo(patch string) []string {
	var near []string
	for at := range len(patch) + 1 {
		for _, letter := range " -+\\@,01239\nax\r\x00" {
			near = append(near, patch[:at]+string(letter)+patch[at:])
			if at < len(patch) {
				near = append(near, patch[:at]+string(letter)+patch[at+1:])
			}
		}
		near = append(near, patch[:at], patch[at:])
		if at < len(patch) {
			near = append(near, patch[:at]+patch[at+1:])
		}
	}
	row := slowLines(patch)
	for i := range row {
		for j := range row {
			ahead, behind := strings.Join(row[:i], ""), strings.Join(row[i:], "")
			near = append(near, ahead+row[j]+behind, ahead+strings.Join(row[min(i+j, len(row)):], ""))
		}
	}
	return near
}

func TestPatchesNearToAPatch(t *testing.T) {
	texts := []string{"a\nb\nc\nd\ne\nf\ng\n", "a\nb\nc\nd\ne\nf\ng", "a\nb\n", ""}
	for _, patch := range []string{
		"@@ -1,2 +1,2 @@\n a\n-b\n+x\n",
		"@@ -1 +1 @@\n-a\n+x\n@@ -3,2 +3 @@\n-c\n d\n@@ -6,0 +6 @@\n+y\n",
		"@@ -0,0 +1,2 @@\n+x\n+y\n@@ -3,2 +4,0 @@\n-c\n-d\n",
		"@@ -6,2 +6,2 @@\n f\n-g\n" + bare + "+x\n" + bare,
		"@@ -2 +2 @@\n+x\n-b\n@@ -5,3 +5,3 @@\n e\n-f\n+x\n g\n" + bare,
	} {
		wantLikeSlow(t, texts, patch)
		for _, near := range nearTo(patch) {
			wantLikeSlow(t, texts, near)
		}
	}
}

// wantTreesLikeSlow holds what a patch makes of trees against the slow form.
func wantTreesLikeSlow(t *testing.T, trees []map[string]string, patch string) {
	t.Helper()
	for _, files := range trees {
		tree := treeFrom(t, files)
		err, at := tree.Patch(patch)
		want, wantErr, wantAt := slowPatch(files, patch)
		if got := filesOf(t, tree); err != wantErr || at != wantAt || !maps.Equal(got, want) {
			t.Fatalf("P10, P11: Patch(%q) of %q = %d, %d: %q, want %d, %d: %q", patch, files, err, at, got, wantErr, wantAt, want)
		}
	}
}

func TestAllShortRowsOfLinesOfFiles(t *testing.T) {
	lines := []string{"--- a\n", "--- b\n", "--- /dev/null\n", "+++ a\n", "+++ b\n", "+++ /dev/null\n", "@@ -1 +1 @@\n", "-x\n", "+y\n", bare}
	trees := []map[string]string{{}, {"a": "", "b": "x\n"}, {"a": "x\n", "c": "x", "d": "", "e": ""}}
	for _, row := range rowsOf(lines, 4) {
		for _, end := range []string{"", "--- "} {
			wantTreesLikeSlow(t, trees, row+end)
		}
	}
}

func TestAllShortRowsOfChanges(t *testing.T) {
	pieces := []string{
		"--- a\n+++ a\n", "--- b\n+++ b\n", "--- /dev/null\n+++ a\n", "--- /dev/null\n+++ b\n", "--- b\n+++ /dev/null\n", "--- c\n+++ /dev/null\n",
		"@@ -1 +1 @@\n-x\n+y\n", "@@ -1 +0,0 @@\n-x\n", "@@ -0,0 +1 @@\n+y\n", bare, "--- ",
	}
	trees := []map[string]string{{}, {"a": "", "b": "x\n"}, {"a": "x\n", "b": "x", "c": ""}, {"a": "x\n", "c": "x\n", "d": "", "e": ""}}
	for _, patch := range rowsOf(pieces, 4) {
		wantTreesLikeSlow(t, trees, patch)
	}
}

func TestPatchesNearToAPatchOfFiles(t *testing.T) {
	trees := []map[string]string{{}, {"a": "x\n", "b": "p\nq\n", "e": ""}, {"a": "x\n", "b": "p\nq", "e": "", "f": ""}}
	for _, patch := range []string{
		changeA + changeB,
		goesA + "--- b\n+++ b\n@@ -1,2 +1,2 @@\n p\n-q\n" + bare + "+q\n" + comesC,
		comesD + "--- e\n+++ /dev/null\n" + "--- /dev/null\n+++ g\n@@ -0,0 +1 @@\n+-- h\n" + bare,
	} {
		wantTreesLikeSlow(t, trees, patch)
		for _, near := range nearTo(patch) {
			wantTreesLikeSlow(t, trees, near)
		}
	}
}
