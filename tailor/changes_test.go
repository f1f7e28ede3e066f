package tailor_test

import (
	"strings"
	"testing"

	"tailor/tailor"
)

func TestPatchChangesFiles(t *testing.T) {
	tree := abTree(t)
	wantPatched(t, tree, "")
	wantFiles(t, tree, "a", "x\n", "b", "p\nq\n", "empty", "")
	wantPatched(t, tree, changeA)
	wantFiles(t, tree, "a", "y\n", "b", "p\nq\n", "empty", "")
	wantPatched(t, tree, changeB+comesC)
	wantFiles(t, tree, "a", "y\n", "b", "p\nr\n", "c", "new\n", "empty", "")
	wantPatched(t, tree, "--- b\n+++ /dev/null\n@@ -1,2 +0,0 @@\n-p\n-r\n"+comesD)
	wantFiles(t, tree, "a", "y\n", "c", "new\n", "d", "", "empty", "")
	wantPatched(t, tree, "--- d\n+++ /dev/null\n"+goesE)
	wantFiles(t, tree, "a", "y\n", "c", "new\n")
	wantPatched(t, tree, "--- a\n+++ a\n@@ -0,0 +1 @@\n+first\n@@ -1,0 +3 @@\n+last\n"+bare)
	wantFiles(t, tree, "a", "first\ny\nlast", "c", "new\n")
	// A file that has become empty is still there.
	wantPatched(t, tree, "--- c\n+++ c\n@@ -1 +0,0 @@\n-new\n")
	wantFiles(t, tree, "a", "first\ny\nlast", "c", "")
	wantPatched(t, tree, "--- c\n+++ c\n@@ -0,0 +1 @@\n+again\n")
	wantFiles(t, tree, "a", "first\ny\nlast", "c", "again\n")
}

func TestPatchOfBareLines(t *testing.T) {
	tree := treeOf(t, "a", "x", "b", "x\n")
	wantPatched(t, tree, "--- a\n+++ a\n@@ -1 +1 @@\n-x\n"+bare+"+x\n--- b\n+++ b\n@@ -1 +1 @@\n-x\n+x\n"+bare+"--- /dev/null\n+++ c\n@@ -0,0 +1 @@\n+z\n"+bare)
	wantFiles(t, tree, "a", "x\n", "b", "x", "c", "z")
	wantPatched(t, tree, "--- b\n+++ /dev/null\n@@ -1 +0,0 @@\n-x\n"+bare+"--- c\n+++ /dev/null\n@@ -1 +0,0 @@\n-z\n"+bare)
	wantFiles(t, tree, "a", "x\n")
}

func TestPatchOfAFileThatIsNotThere(t *testing.T) {
	tree := abTree(t)
	wantRefused(t, tree, "--- c\n+++ c\n@@ -0,0 +1 @@\n+y\n", tailor.ErrNone, 0)
	wantRefused(t, tree, "--- c\n+++ /dev/null\n", tailor.ErrNone, 0)
	wantRefused(t, tree, "--- c\n+++ /dev/null\n@@ -1 +0,0 @@\n-y\n", tailor.ErrNone, 0)
	wantRefused(t, tree, changeA+changeB+"--- c\n+++ c\n@@ -1 +1 @@\n-x\n+y\n", tailor.ErrNone, 2)
	wantRefused(t, tree, comesC+goesE+"--- f\n+++ /dev/null\n", tailor.ErrNone, 2)
	wantRefused(t, tailor.New(), changeA, tailor.ErrNone, 0)
	// That it is not there is told ahead of hunks that fit no empty file.
	wantRefused(t, tree, "--- c\n+++ c\n@@ -9 +9 @@\n-x\n+y\n", tailor.ErrNone, 0)
	wantRefused(t, tree, "--- c\n+++ c\n@@ -0,0 +1 @@\n+"+strings.Repeat("y", maxText+1)+"\n", tailor.ErrNone, 0)
}

func TestPatchOfAFileThatIsThereAlready(t *testing.T) {
	tree := abTree(t)
	wantRefused(t, tree, "--- /dev/null\n+++ a\n", tailor.ErrThere, 0)
	wantRefused(t, tree, "--- /dev/null\n+++ empty\n", tailor.ErrThere, 0)
	wantRefused(t, tree, "--- /dev/null\n+++ empty\n@@ -0,0 +1 @@\n+x\n", tailor.ErrThere, 0)
	wantRefused(t, tree, changeA+"--- /dev/null\n+++ b\n@@ -0,0 +1 @@\n+x\n", tailor.ErrThere, 1)
	wantRefused(t, tree, goesA+"--- /dev/null\n+++ b\n"+comesC, tailor.ErrThere, 1)
	// It is told ahead of hunks that do not fit, or make too much.
	wantRefused(t, tree, "--- /dev/null\n+++ a\n@@ -9 +9 @@\n-x\n+y\n", tailor.ErrThere, 0)
	wantRefused(t, tree, "--- /dev/null\n+++ a\n@@ -0,0 +1 @@\n+"+strings.Repeat("y", maxText+1)+"\n", tailor.ErrThere, 0)
}

func TestPatchWhereHunksDoNotFit(t *testing.T) {
	tree := abTree(t)
	wantRefused(t, tree, "--- a\n+++ a\n@@ -1 +1 @@\n-y\n+z\n", tailor.ErrHunk, 0)
	wantRefused(t, tree, "--- a\n+++ a\n@@ -2 +2 @@\n-x\n+z\n", tailor.ErrHunk, 0)
	wantRefused(t, tree, "--- a\n+++ a\n@@ -1 +1 @@\n-x\n"+bare+"+z\n", tailor.ErrHunk, 0)
	wantRefused(t, tree, "--- b\n+++ b\n@@ -1 +1 @@\n-p\n+z\n"+bare, tailor.ErrHunk, 0)
	wantRefused(t, tree, "--- empty\n+++ empty\n@@ -1 +1 @@\n-x\n+y\n", tailor.ErrHunk, 0)
	// The number is that of the change, not of the hunk.
	wantRefused(t, tree, "--- b\n+++ b\n@@ -1 +1 @@\n-p\n+x\n@@ -2 +2 @@\n-x\n+y\n", tailor.ErrHunk, 0)
	wantRefused(t, tree, changeA+"--- b\n+++ b\n@@ -1 +1 @@\n-q\n+x\n", tailor.ErrHunk, 1)
	wantRefused(t, tree, goesA+changeB+comesC+"--- empty\n+++ empty\n@@ -1 +0,0 @@\n-x\n", tailor.ErrHunk, 3)
	wantRefused(t, treeOf(t, "a", "x"), "--- a\n+++ a\n@@ -1,0 +2 @@\n+y\n", tailor.ErrHunk, 0)
	// A file that is not there till then is empty.
	wantRefused(t, tree, "--- /dev/null\n+++ c\n@@ -1 +1 @@\n-x\n+y\n", tailor.ErrHunk, 0)
	wantRefused(t, tree, "--- /dev/null\n+++ c\n@@ -1,0 +2 @@\n+y\n", tailor.ErrHunk, 0)
	wantRefused(t, tree, "--- /dev/null\n+++ c\n@@ -1 +0,0 @@\n-y\n", tailor.ErrHunk, 0)
	wantRefused(t, tree, changeA+"--- /dev/null\n+++ c\n@@ -0,0 +1 @@\n+x\n@@ -1 +2 @@\n-x\n+y\n", tailor.ErrHunk, 1)
}

func TestPatchWhereSomethingIsLeft(t *testing.T) {
	tree := abTree(t)
	wantRefused(t, tree, "--- a\n+++ /dev/null\n", tailor.ErrHunk, 0)
	wantRefused(t, tree, "--- b\n+++ /dev/null\n@@ -1 +0,0 @@\n-p\n", tailor.ErrHunk, 0)
	wantRefused(t, tree, "--- b\n+++ /dev/null\n@@ -1,2 +1 @@\n-p\n q\n", tailor.ErrHunk, 0)
	wantRefused(t, tree, "--- a\n+++ /dev/null\n@@ -1 +1 @@\n-x\n+y\n", tailor.ErrHunk, 0)
	wantRefused(t, tree, "--- empty\n+++ /dev/null\n@@ -0,0 +1 @@\n+y\n", tailor.ErrHunk, 0)
	wantRefused(t, tree, "--- b\n+++ /dev/null\n@@ -1,2 +0,0 @@\n-p\n-x\n", tailor.ErrHunk, 0)
	wantRefused(t, tree, changeA+"--- b\n+++ /dev/null\n@@ -2 +1,0 @@\n-q\n", tailor.ErrHunk, 1)
	wantRefused(t, treeOf(t, "a", "x"), "--- a\n+++ /dev/null\n", tailor.ErrHunk, 0)
	wantRefused(t, treeOf(t, "a", "\n"), "--- a\n+++ /dev/null\n", tailor.ErrHunk, 0)
	// So it is if what is left would be too long for a file.
	wantRefused(t, tree, "--- a\n+++ /dev/null\n@@ -1 +1 @@\n-x\n+"+strings.Repeat("y", maxText+1)+"\n", tailor.ErrHunk, 0)
	wantRefused(t, tree, comesD+"--- empty\n+++ /dev/null\n@@ -0,0 +1 @@\n+"+strings.Repeat("y", maxText)+"\n", tailor.ErrHunk, 1)
}

func TestPatchUpToTheBoundOfAText(t *testing.T) {
	most := strings.Repeat("y", maxText)
	tree := abTree(t)
	wantPatched(t, tree, "--- a\n+++ a\n@@ -1 +1 @@\n-x\n+"+most[1:]+"\n")
	wantPatched(t, tree, "--- /dev/null\n+++ c\n@@ -0,0 +1 @@\n+"+most+"\n"+bare)
	wantFiles(t, tree, "a", most[1:]+"\n", "b", "p\nq\n", "c", most, "empty", "")
	wantRefused(t, tree, "--- a\n+++ a\n@@ -1,0 +2 @@\n+\n", tailor.ErrLong, 0)
	wantRefused(t, tree, "--- b\n+++ b\n@@ -1 +1 @@\n-p\n+"+most+"\n", tailor.ErrLong, 0)
	wantRefused(t, tree, "--- empty\n+++ empty\n@@ -0,0 +1 @@\n+"+most+"\n", tailor.ErrLong, 0)
	wantRefused(t, tree, "--- c\n+++ /dev/null\n@@ -1 +0,0 @@\n-"+most+"\n"+bare+"--- /dev/null\n+++ d\n@@ -0,0 +1 @@\n+"+most+"\n", tailor.ErrLong, 1)
	// Hunks that do not fit are told ahead of that.
	wantRefused(t, tree, "--- a\n+++ a\n@@ -1,0 +2 @@\n+\n@@ -2 +3 @@\n-x\n+y\n", tailor.ErrHunk, 0)
}

func TestPatchTellsTheFirstChangeThatCannotBe(t *testing.T) {
	tree := abTree(t)
	noneC := "--- c\n+++ /dev/null\n"
	thereE := "--- /dev/null\n+++ empty\n"
	leftB := "--- b\n+++ /dev/null\n"
	longA := "--- a\n+++ a\n@@ -1 +1 @@\n-x\n+" + strings.Repeat("y", maxText) + "\n"
	wantRefused(t, tree, longA+leftB+noneC+thereE, tailor.ErrLong, 0)
	wantRefused(t, tree, changeA+leftB+noneC+thereE, tailor.ErrHunk, 1)
	wantRefused(t, tree, changeA+changeB+noneC+thereE, tailor.ErrNone, 2)
	wantRefused(t, tree, changeA+changeB+comesC+thereE, tailor.ErrThere, 3)
	wantRefused(t, tree, changeA+changeB+comesC+comesD+thereE, tailor.ErrThere, 4)
	// That there are too many files is told behind all changes.
	wantRefused(t, tree, changeA+changeB+comesC+comesD, tailor.ErrFull, 0)
	// That it is no patch is told ahead of all.
	wantRefused(t, tree, noneC+thereE+"x", tailor.ErrForm, len(noneC+thereE))
	wantRefused(t, tree, leftB+longA, tailor.ErrForm, len(leftB))
}

func comesEmpty(names ...string) string {
	patch := ""
	for _, name := range names {
		patch += "--- /dev/null\n+++ " + name + "\n"
	}
	return patch
}

func TestPatchThatWouldMakeTooManyFiles(t *testing.T) {
	wantRefused(t, tailor.New(), comesEmpty("a", "b", "c", "d", "e"), tailor.ErrFull, 0)
	tree := tailor.New()
	wantPatched(t, tree, comesEmpty("a", "b", "c", "d"))
	wantFiles(t, tree, "a", "", "b", "", "c", "", "d", "")
	wantRefused(t, tree, comesEmpty("e"), tailor.ErrFull, 0)
	wantRefused(t, tree, "--- a\n+++ /dev/null\n"+comesEmpty("e", "f"), tailor.ErrFull, 0)
	// Only what there is behind all changes counts.
	wantPatched(t, tree, "--- a\n+++ /dev/null\n"+comesEmpty("e"))
	wantFiles(t, tree, "b", "", "c", "", "d", "", "e", "")
	wantPatched(t, tree, comesEmpty("a")+"--- b\n+++ /dev/null\n")
	wantFiles(t, tree, "a", "", "c", "", "d", "", "e", "")
	wantPatched(t, tree, comesEmpty("aa", "ab", "ac")+"--- c\n+++ /dev/null\n--- d\n+++ /dev/null\n--- e\n+++ /dev/null\n")
	wantFiles(t, tree, "a", "", "aa", "", "ab", "", "ac", "")
	wantPatched(t, tree, "--- a\n+++ a\n@@ -0,0 +1 @@\n+x\n")
	wantFiles(t, tree, "a", "x\n", "aa", "", "ab", "", "ac", "")
	wantRefused(t, tree, comesEmpty("b", "c", "d", "e", "f", "g", "h"), tailor.ErrFull, 0)
}

func TestPatchMakesAllChangesOrNone(t *testing.T) {
	fine := []string{changeA, changeB, comesC, goesE}
	for at := range fine {
		patch := strings.Join(fine[:at+1], "")
		wantPatched(t, abTree(t), patch)
		wantRefused(t, abTree(t), patch+"--- z\n+++ /dev/null\n", tailor.ErrNone, at+1)
		wantRefused(t, abTree(t), patch+"x", tailor.ErrForm, len(patch))
	}
	// Behind a refusal the tree is as good as ever.
	tree := abTree(t)
	wantRefused(t, tree, goesA+goesB+"--- c\n+++ /dev/null\n", tailor.ErrNone, 2)
	wantPatched(t, tree, goesA+goesB)
	wantPut(t, tree, "a", "z", tailor.OK)
	wantFiles(t, tree, "a", "z", "empty", "")
}
