package tailor_test

import (
	"maps"
	"slices"
	"strings"
	"testing"

	"tailor/tailor"
)

// abTree is what the patches of these tests are made for.
func abTree(t *testing.T) *tailor.Tree {
	t.Helper()
	return treeOf(t, "a", "x\n", "b", "p\nq\n", "empty", "")
}

func wantPatched(t *testing.T, tree *tailor.Tree, patch string) {
	t.Helper()
	if err, at := tree.Patch(patch); err != tailor.OK || at != 0 {
		t.Errorf("P10, P11: Patch(%.200q) = %d, %d, want 0, 0", patch, err, at)
	}
}

// wantRefused wants that no file changes.
func wantRefused(t *testing.T, tree *tailor.Tree, patch string, want tailor.Errno, wantAt int) {
	t.Helper()
	files := filesOf(t, tree)
	if err, at := tree.Patch(patch); err != want || at != wantAt {
		t.Errorf("P10, P11: Patch(%.200q) = %d, %d, want %d, %d", patch, err, at, want, wantAt)
	}
	if after := filesOf(t, tree); !maps.Equal(after, files) {
		t.Errorf("P11: Patch(%.200q) is refused, but the files %q are %q now", patch, files, after)
	}
}

// wantNoChanges asks several trees: that a patch is none hangs on no file.
func wantNoChanges(t *testing.T, patch string, place int) {
	t.Helper()
	for _, tree := range []*tailor.Tree{abTree(t), tailor.New(), treeOf(t, "a", "", "b", "", "c", "", "d", "")} {
		wantRefused(t, tree, patch, tailor.ErrForm, place)
	}
}

// wantFilesBroken is for a patch that is fine up to rest, and refused there.
func wantFilesBroken(t *testing.T, fine string, rest string) {
	t.Helper()
	wantNoChanges(t, fine+rest, len(fine))
}

// wantChanges is for a patch that is one, if it fits or not.
func wantChanges(t *testing.T, patch string) {
	t.Helper()
	if err, at := abTree(t).Patch(patch); err == tailor.ErrForm || err == tailor.ErrLong {
		t.Errorf("P10: Patch(%.200q) = %d, %d, but it is a patch of files", patch, err, at)
	}
}

const (
	changeA = "--- a\n+++ a\n@@ -1 +1 @@\n-x\n+y\n"
	changeB = "--- b\n+++ b\n@@ -2 +2 @@\n-q\n+r\n"
	comesC  = "--- /dev/null\n+++ c\n@@ -0,0 +1 @@\n+new\n"
	comesD  = "--- /dev/null\n+++ d\n"
	goesA   = "--- a\n+++ /dev/null\n@@ -1 +0,0 @@\n-x\n"
	goesB   = "--- b\n+++ /dev/null\n@@ -1,2 +0,0 @@\n-p\n-q\n"
	goesE   = "--- empty\n+++ /dev/null\n"
)

func TestPatchesOfFiles(t *testing.T) {
	for _, patch := range []string{
		"", changeA, changeB, comesC, comesD, goesA, goesB, goesE,
		changeA + changeB, changeA + changeB + comesC + comesD + goesE, goesA + goesB + comesC,
		"--- abcdefgh\n+++ abcdefgh\n@@ -1 +1 @@\n-x\n+y\n",
		"--- z\n+++ z\n@@ -1 +1 @@\n-x\n+y\n@@ -3 +3 @@\n-x\n+y\n",
	} {
		wantChanges(t, patch)
	}
}

func TestNamesInPatches(t *testing.T) {
	hunk := "@@ -1 +1 @@\n-x\n+y\n"
	for _, name := range rightNames() {
		wantChanges(t, "--- "+name+"\n+++ "+name+"\n"+hunk)
		wantChanges(t, "--- /dev/null\n+++ "+name+"\n")
		wantChanges(t, "--- "+name+"\n+++ /dev/null\n")
	}
	for _, name := range append(wrongNames(), "a ", " a", "/dev/nul", "/dev/null ", "/dev/nulls", "dev/null", "/DEV/NULL", "a\t2026") {
		if len(name) > maxPatch || name == nowhere || strings.Contains(name, "\n") {
			continue
		}
		wantFilesBroken(t, "", "--- "+name+"\n+++ "+name+"\n"+hunk)
		wantFilesBroken(t, changeA, "--- "+name+"\n+++ b\n"+hunk)
		wantFilesBroken(t, "--- b\n", "+++ "+name+"\n"+hunk)
		wantFilesBroken(t, "--- /dev/null\n", "+++ "+name+"\n")
		wantFilesBroken(t, changeA+"--- b\n", "+++ "+name+"\n"+hunk)
	}
}

func TestLinesThatBeginNoChange(t *testing.T) {
	for _, line := range []string{
		" ", "-", "--", "---", "---a", "---\ta", "--  a", "-- a", "---- a", " --- a", "+++ a", "@@ -1,2 +3 @@", "-x", "+x", " x", "x",
		"\\", "diff a b", "*** a", "–-- a", "\x00",
	} {
		wantFilesBroken(t, "", line+"\n+++ a\n@@ -1 +1 @@\n-x\n+y\n")
		wantFilesBroken(t, changeA, line+"\n+++ b\n@@ -1 +1 @@\n-x\n+y\n")
		wantFilesBroken(t, goesA, line+"\n+++ b\n")
		wantFilesBroken(t, comesD, line+"\n+++ b\n")
		wantFilesBroken(t, "", line)
		wantFilesBroken(t, changeA, line)
	}
	wantFilesBroken(t, "", "\n")
	wantFilesBroken(t, "", "\n"+changeA)
	wantFilesBroken(t, changeA, "\n"+changeB)
	wantFilesBroken(t, "", "@@ -1 +1 @@\n-x\n+y\n")
}

func TestSecondLinesThatAreNone(t *testing.T) {
	for _, line := range []string{
		"", " ", "+", "++", "+++", "+++a", "+++\ta", "++ a", "++++ a", " +++ a", "--- a", "@@ -1 +1 @@", "-x", "+x", " x", "x", "+++  a", "+++ a ",
	} {
		wantFilesBroken(t, "--- a\n", line+"\n@@ -1 +1 @@\n-x\n+y\n")
		wantFilesBroken(t, "--- a\n", line+"\n+++ a\n@@ -1 +1 @@\n-x\n+y\n")
		wantFilesBroken(t, "--- /dev/null\n", line+"\n")
		wantFilesBroken(t, changeA+"--- b\n", line+"\n")
		wantFilesBroken(t, "--- a\n", line)
		wantFilesBroken(t, "--- /dev/null\n", line)
	}
}

func TestNamesThatAreNotTheSame(t *testing.T) {
	hunk := "@@ -1 +1 @@\n-x\n+y\n"
	wantFilesBroken(t, "--- a\n", "+++ b\n"+hunk)
	wantFilesBroken(t, "--- b\n", "+++ a\n"+hunk)
	wantFilesBroken(t, "--- a\n", "+++ aa\n"+hunk)
	wantFilesBroken(t, "--- aa\n", "+++ a\n"+hunk)
	wantFilesBroken(t, "--- abcdefgh\n", "+++ abcdefgi\n"+hunk)
	wantFilesBroken(t, changeA+"--- b\n", "+++ c\n"+hunk)
	// It is told ahead of what follows, and of names that do not rise.
	wantFilesBroken(t, "--- a\n", "+++ b\n")
	wantFilesBroken(t, "--- a\n", "+++ b\nx")
	wantFilesBroken(t, changeB+"--- a\n", "+++ b\n"+hunk)
}

func TestAChangeOfNoFile(t *testing.T) {
	wantFilesBroken(t, "--- /dev/null\n", "+++ /dev/null\n")
	wantFilesBroken(t, "--- /dev/null\n", "+++ /dev/null\n@@ -0,0 +1 @@\n+x\n")
	wantFilesBroken(t, "--- /dev/null\n", "+++ /dev/null\n"+changeA)
	wantFilesBroken(t, changeA+"--- /dev/null\n", "+++ /dev/null\n"+changeB)
}

func TestAChangeThatMustHaveAHunk(t *testing.T) {
	without := "--- b\n+++ b\n"
	for _, fine := range []string{"", changeA, goesA, "--- /dev/null\n+++ a\n"} {
		wantFilesBroken(t, fine, without)
		wantFilesBroken(t, fine, without+comesC)
		wantFilesBroken(t, fine, without+"--- \n")
		wantFilesBroken(t, fine, without+"--- x")
		wantFilesBroken(t, fine, without+"--- ")
		wantFilesBroken(t, fine, without+"--- C\n+++ C\n")
		wantFilesBroken(t, fine, without+without)
		// Any other line stands where a head must be.
		for _, line := range []string{"---\n", "---", "--", "-", "-- c\n", "---- c\n", "+++ b\n", "x\n", "x", "\n", " --- c\n", bare, "-x\n", "@@ -1 +1 @@", "@@ -0,0 +0,0 @@\n", "@@ -1 +1 @@\n b\n"} {
			wantFilesBroken(t, fine+without, line)
		}
		wantFilesBroken(t, fine+without+"@@ -1 +1 @@\n", "")
		wantFilesBroken(t, fine+without+"@@ -1 +1 @@\n+++ c\n", "--- ")
	}
}

func TestAFileThatComesOrGoesMayBeEmpty(t *testing.T) {
	wantChanges(t, comesD)
	wantChanges(t, goesE)
	wantChanges(t, comesD+goesE+"--- /dev/null\n+++ f\n")
	wantFilesBroken(t, comesD, "x\n")
	wantFilesBroken(t, goesE, "x")
	wantFilesBroken(t, comesD, "---\n")
	wantFilesBroken(t, goesE, bare)
	wantFilesBroken(t, comesD, "--- ")
}

func TestNamesThatDoNotRise(t *testing.T) {
	wantFilesBroken(t, changeB, changeA)
	wantFilesBroken(t, changeA, changeA)
	wantFilesBroken(t, changeA+changeB, changeA)
	wantFilesBroken(t, changeA+changeB, changeB)
	wantFilesBroken(t, comesC, changeB)
	wantFilesBroken(t, goesB, goesA)
	wantFilesBroken(t, goesA, "--- /dev/null\n+++ a\n")
	wantFilesBroken(t, "--- /dev/null\n+++ a\n", goesA)
	wantFilesBroken(t, comesD, comesD)
	wantFilesBroken(t, goesE, comesD)
	wantFilesBroken(t, "--- /dev/null\n+++ ab\n", "--- /dev/null\n+++ a\n")
	wantFilesBroken(t, "--- /dev/null\n+++ b\n", "--- /dev/null\n+++ ab\n")
	wantFilesBroken(t, "--- /dev/null\n+++ b\n", "--- /dev/null\n+++ aaaaaaaa\n")
	// The first of them is told.
	wantFilesBroken(t, changeB, changeA+changeA)
	wantFilesBroken(t, changeB, changeA+"--- ")
	wantFilesBroken(t, changeB, changeA+"--- A\n")
	wantFilesBroken(t, changeB, "--- a\n+++ a\n")
	for _, fine := range []string{"--- /dev/null\n+++ a\n--- /dev/null\n+++ aa\n", "--- /dev/null\n+++ ab\n--- /dev/null\n+++ b\n"} {
		wantChanges(t, fine)
	}
}

// That a name rises is looked at behind its change: what cannot stand in the
// change is told ahead of that.
func TestANameIsLookedAtBehindItsChange(t *testing.T) {
	wantFilesBroken(t, changeB+"--- a\n", "")
	wantFilesBroken(t, changeB+"--- a\n", "+++ a")
	wantFilesBroken(t, changeB+"--- a\n+++ a\n", "@@ -1 +1 @@")
	wantFilesBroken(t, changeB+"--- a\n+++ a\n@@ -1 +1 @@\n-x\n", "y\n")
	wantFilesBroken(t, changeB+"--- a\n+++ a\n@@ -1 +1 @@\n-x\n", "")
	wantFilesBroken(t, changeB+"--- a\n+++ a\n", "@@ -1 +1 @@\n x\n")
	wantFilesBroken(t, changeB+changeA, "x\n")
	wantFilesBroken(t, changeB+changeA, "---")
	wantFilesBroken(t, changeB+changeA, "@@ -1 +1 @@\n-x\n+y\n")
	wantFilesBroken(t, changeB+"--- /dev/null\n+++ a\n", "x\n")
}

func TestHunksOfChanges(t *testing.T) {
	head := "--- b\n+++ b\n"
	for _, fine := range []string{head, changeA + head, "--- /dev/null\n+++ b\n", "--- b\n+++ /dev/null\n"} {
		wantFilesBroken(t, fine, "@@ -01 +1 @@\n-x\n+y\n")
		wantFilesBroken(t, fine, "@@ -0,0 +0,0 @@\n")
		wantFilesBroken(t, fine, "@@ -1 +1 @@\n x\n")
		wantFilesBroken(t, fine+"@@ -1 +1 @@\n-x\n", "-y\n")
		wantFilesBroken(t, fine+"@@ -1 +1 @@\n-x\n", "@@ -2 +2 @@\n")
		wantFilesBroken(t, fine+"@@ -1 +1 @@\n-x\n", changeA)
		wantFilesBroken(t, fine+"@@ -1,2 +1 @@\n-x\n", bare)
		wantFilesBroken(t, fine+"@@ -1 +1 @@\n-x\n+y\n", "@@ -1 +1 @@\n-x\n+y\n")
		wantFilesBroken(t, fine+"@@ -1 +1 @@\n-x\n+y\n", "@@ -2 +3 @@\n-x\n+y\n")
		wantFilesBroken(t, fine+"@@ -1 +1 @@\n-x\n+y\n", "+z\n")
		wantFilesBroken(t, fine+"@@ -1 +1 @@\n-x\n+y\n", "+z")
		wantFilesBroken(t, fine+"@@ -1 +1 @@\n-x\n", "+y")
		wantFilesBroken(t, fine+"@@ -1 +1 @@\n-x\n", "")
	}
}

// What stands ahead of a change's first hunk is nothing, and not the last hunk
// of another file.
func TestHunksOfEachFileStandForThemselves(t *testing.T) {
	late := "--- a\n+++ a\n@@ -7 +7,3 @@\n-x\n+x\n+y\n+z\n"
	wantChanges(t, late+changeB)
	wantChanges(t, changeA+"--- b\n+++ b\n@@ -1 +1 @@\n-x\n+y\n@@ -2 +2 @@\n-x\n+y\n"+comesC)
	wantFilesBroken(t, late+"--- b\n+++ b\n", "@@ -8 +10 @@\n-x\n+y\n")
}

func TestBareLinesAtTheEndOfAChange(t *testing.T) {
	bareA := "--- a\n+++ a\n@@ -1 +1 @@\n-x\n+y\n" + bare
	wantChanges(t, bareA)
	wantChanges(t, bareA+changeB)
	wantChanges(t, bareA+comesD)
	wantChanges(t, "--- a\n+++ a\n@@ -1 +1 @@\n-x\n"+bare+"+y\n"+changeB)
	wantFilesBroken(t, bareA, bare)
	wantFilesBroken(t, bareA, bare+changeB)
	wantFilesBroken(t, bareA, "@@ -2 +2 @@\n-x\n+y\n")
	wantFilesBroken(t, bareA, strings.TrimSuffix(bare, "\n"))
	wantFilesBroken(t, changeA, strings.TrimSuffix(bare, "\n"))
	wantFilesBroken(t, changeA+changeB+bare, bare)
	wantFilesBroken(t, "--- a\n+++ a\n@@ -1 +1 @@\n-x\n+\n", bare+changeB)
	wantFilesBroken(t, "--- a\n+++ a\n", bare+changeB)
	wantFilesBroken(t, "", bare+changeB)
}

// Within a hunk they are steps, whatever they look like.
func TestStepsThatLookLikeTheHeadOfAChange(t *testing.T) {
	tree := treeOf(t, "a", "-- b\n-- c\n")
	wantPatched(t, tree, "--- a\n+++ a\n@@ -1,2 +1,2 @@\n--- b\n+++ b\n--- c\n+++ c\n")
	wantFiles(t, tree, "a", "++ b\n++ c\n")
	wantPatched(t, tree, "--- a\n+++ a\n@@ -2 +2 @@\n-++ c\n+-- c\n--- /dev/null\n+++ c\n")
	wantFiles(t, tree, "a", "++ b\n-- c\n", "c", "")
	wantFilesBroken(t, "--- a\n+++ a\n@@ -1,2 +1 @@\n--- b\n+++ b\n", "+++ c\n")
}

// A patch that is cut off anywhere but behind a hunk, or behind the head of a
// change that needs none, is refused at the line that breaks off, or at its end;
// or at the first line of the change that then lacks its hunk.
func TestPatchesOfFilesThatBreakOff(t *testing.T) {
	twoHunks := "--- b\n+++ b\n@@ -1 +1 @@\n-p\n+x\n@@ -2 +2 @@\n-q\n+y\n"
	patch := changeA + twoHunks + bare + comesC + comesD
	fine := []int{0, len(changeA), len(changeA + twoHunks), len(changeA + twoHunks + bare), len(patch) - len(comesD), len(patch)}
	fine = append(fine, strings.Index(patch, "@@ -2 +2"), strings.Index(patch, "@@ -0,0"))
	lackFirst, lackSecond := strings.Index(patch, "@@"), strings.Index(patch, "@@ -1 +1 @@\n-p")
	for end := range len(patch) + 1 {
		cut := patch[:end]
		switch {
		case slices.Contains(fine, end):
			wantChanges(t, cut)
		case end == lackFirst:
			wantNoChanges(t, cut, 0)
		case end == lackSecond:
			wantNoChanges(t, cut, len(changeA))
		default:
			wantNoChanges(t, cut, strings.LastIndexByte(cut, '\n')+1)
		}
	}
}

// manyHunks is hunks that take each of so many empty lines away and bring it
// back, each in a hunk of its own, so that it is as long as can be.
func manyHunks(many int) string {
	hunks := ""
	for number := 1; number <= many; number++ {
		hunks += head(number, 1, number, 0) + "-\n" + head(number+1, 0, number, 1) + "+\n"
	}
	return hunks
}

// longPatch is a patch of so many bytes that fits a tree of three files of 300
// empty lines each; what is left of the bytes comes as a fourth file.
func longPatch(size int) (string, string) {
	patch := ""
	for _, name := range []string{"a", "b", "c"} {
		many := maxText
		start := "--- " + name + "\n+++ " + name + "\n"
		for len(patch+start+manyHunks(many)) > size-100 {
			many -= 5
		}
		patch += start + manyHunks(many)
	}
	start := "--- /dev/null\n+++ d\n@@ -0,0 +1 @@\n+"
	last := strings.Repeat("y", size-len(patch+start)-1) + "\n"
	return patch + start + last, last
}

func TestPatchesOfFilesUpToTheBound(t *testing.T) {
	empty := strings.Repeat("\n", maxText)
	patch, last := longPatch(maxPatch)
	if len(patch) != maxPatch {
		t.Fatalf("the patch has %d bytes", len(patch))
	}
	tree := treeOf(t, "a", empty, "b", empty, "c", empty)
	wantPatched(t, tree, patch)
	wantFiles(t, tree, "a", empty, "b", empty, "c", empty, "d", last)
	wantRefused(t, tailor.New(), patch, tailor.ErrNone, 0)
	wantRefused(t, tree, strings.Repeat("x", maxPatch), tailor.ErrForm, 0)
	wantRefused(t, tree, patch[:maxPatch-1], tailor.ErrForm, maxPatch-1-len(last))
}

func TestPatchesOfFilesAboveTheBound(t *testing.T) {
	empty := strings.Repeat("\n", maxText)
	patch, _ := longPatch(maxPatch + 1)
	wantRefused(t, treeOf(t, "a", empty, "b", empty, "c", empty), patch, tailor.ErrLong, 0)
	for _, patch := range []string{
		strings.Repeat("x", maxPatch+1),
		changeA + strings.Repeat("\n", maxPatch),
		strings.Repeat(changeA, maxPatch),
	} {
		wantRefused(t, abTree(t), patch, tailor.ErrLong, 0)
		wantRefused(t, tailor.New(), patch, tailor.ErrLong, 0)
	}
}
