package tailor_test

import (
	"maps"
	"math"
	"slices"
	"strings"
	"testing"

	"tailor/tailor"
)

// wantCompare is for pairs of trees of which just one patch is right.
func wantCompare(t *testing.T, from *tailor.Tree, to *tailor.Tree, context int, want string) {
	t.Helper()
	if got, err := from.Compare(to, context); got != want || err != tailor.OK {
		t.Errorf("P12: Compare with context %d = %q, %d, want %q, 0", context, got, err, want)
	}
	wantLeadsTree(t, filesOf(t, from), filesOf(t, to), context)
}

// wantLeadsTree holds a patch against what P12 says of every patch.
func wantLeadsTree(t *testing.T, from map[string]string, to map[string]string, context int) {
	t.Helper()
	tree, other := treeFrom(t, from), treeFrom(t, to)
	patch, err := tree.Compare(other, context)
	if err != tailor.OK {
		t.Fatalf("P12: from %q to %q with context %d: %d", from, to, context, err)
	}
	if !maps.Equal(filesOf(t, tree), from) || !maps.Equal(filesOf(t, other), to) {
		t.Fatalf("P12: Compare changed %q or %q", from, to)
	}
	if want := slowCompare(t, from, to, context); patch != want {
		t.Fatalf("P12: from %q to %q with context %d: %q, want %q", from, to, context, patch, want)
	}
	if (patch == "") != maps.Equal(from, to) {
		t.Fatalf("P12: from %q to %q with context %d: %q", from, to, context, patch)
	}
	if there, err, at := slowPatch(from, patch); err != tailor.OK || !maps.Equal(there, to) {
		t.Fatalf("P12: from %q to %q with context %d: %q, which leads to %q, %d, %d", from, to, context, patch, there, err, at)
	}
	if err, at := tree.Patch(patch); err != tailor.OK || !maps.Equal(filesOf(t, tree), to) {
		t.Fatalf("P12: from %q to %q with context %d: %q, which Patch takes to %q, %d, %d", from, to, context, patch, filesOf(t, tree), err, at)
	}
}

// slowCompare takes the hunks from Diff, for which other tests stand.
func slowCompare(t *testing.T, from map[string]string, to map[string]string, context int) string {
	t.Helper()
	all := maps.Clone(from)
	maps.Copy(all, to)
	patch := ""
	for _, name := range slices.Sorted(maps.Keys(all)) {
		old, was := from[name]
		new, is := to[name]
		if was && is && old == new {
			continue
		}
		patch += slowHeadOf("--- ", name, was) + slowHeadOf("+++ ", name, is)
		hunks, err := tailor.Diff(old, new, context)
		if err != tailor.OK {
			t.Fatalf("P4: Diff(%q, %q, %d) tells %d", old, new, context, err)
		}
		patch += hunks
	}
	return patch
}

func slowHeadOf(mark string, name string, there bool) string {
	if !there {
		name = nowhere
	}
	return mark + name + "\n"
}

func wantCompareAlways(t *testing.T, from *tailor.Tree, to *tailor.Tree, want string) {
	t.Helper()
	for context := range maxContext + 1 {
		wantCompare(t, from, to, context, want)
	}
}

func TestCompareOfTreesThatAreTheSame(t *testing.T) {
	for _, files := range [][]string{
		{}, {"a", ""}, {"a", "x"}, {"a", "x\n", "b", "", "c", "\n", "d", "p\nq"},
		{"a", strings.Repeat("a", maxText), "b", strings.Repeat("\n", maxText)},
	} {
		tree := treeOf(t, files...)
		wantCompareAlways(t, tree, tree, "")
		wantCompareAlways(t, tree, treeOf(t, files...), "")
	}
	// They are the same, however they became so.
	tree := treeOf(t, "b", "2", "z", "", "a", "x")
	wantDrop(t, tree, "z", tailor.OK)
	wantPut(t, tree, "a", "1", tailor.OK)
	wantCompareAlways(t, tree, treeOf(t, "a", "1", "b", "2"), "")
	wantCompareAlways(t, treeOf(t, "a", "1", "b", "2"), tree, "")
}

func TestCompareOfFilesThatChange(t *testing.T) {
	from := treeOf(t, "a", "x\n", "b", "p\nq\n", "same", "s")
	to := treeOf(t, "a", "y\n", "b", "p\nr\n", "same", "s")
	wantCompare(t, from, to, 0, changeA+changeB)
	wantCompare(t, from, to, 1, changeA+"--- b\n+++ b\n@@ -1,2 +1,2 @@\n p\n-q\n+r\n")
	wantCompare(t, to, from, 0, "--- a\n+++ a\n@@ -1 +1 @@\n-y\n+x\n--- b\n+++ b\n@@ -2 +2 @@\n-r\n+q\n")
	wantCompareAlways(t, treeOf(t, "a", "x"), treeOf(t, "a", "x\n"), "--- a\n+++ a\n@@ -1 +1 @@\n-x\n"+bare+"+x\n")
	wantCompareAlways(t, treeOf(t, "a", "x"), treeOf(t, "a", ""), "--- a\n+++ a\n@@ -1 +0,0 @@\n-x\n"+bare)
	wantCompareAlways(t, treeOf(t, "a", ""), treeOf(t, "a", "x\n"), "--- a\n+++ a\n@@ -0,0 +1 @@\n+x\n")
}

func TestCompareOfFilesThatComeAndGo(t *testing.T) {
	empty, tree := tailor.New(), abTree(t)
	wantCompareAlways(t, tree, empty, goesA+goesB+goesE)
	wantCompareAlways(t, empty, tree, "--- /dev/null\n+++ a\n@@ -0,0 +1 @@\n+x\n--- /dev/null\n+++ b\n@@ -0,0 +1,2 @@\n+p\n+q\n--- /dev/null\n+++ empty\n")
	// An empty file is another thing than none.
	wantCompareAlways(t, empty, treeOf(t, "a", ""), "--- /dev/null\n+++ a\n")
	wantCompareAlways(t, treeOf(t, "a", ""), empty, "--- a\n+++ /dev/null\n")
	wantCompareAlways(t, treeOf(t, "b", ""), treeOf(t, "a", ""), "--- /dev/null\n+++ a\n--- b\n+++ /dev/null\n")
	wantCompareAlways(t, treeOf(t, "a", "", "b", "x"), treeOf(t, "b", "", "c", ""), "--- a\n+++ /dev/null\n--- b\n+++ b\n@@ -1 +0,0 @@\n-x\n"+bare+"--- /dev/null\n+++ c\n")
}

// Four files go and four come, so that behind half of the changes there are too
// many.
func TestCompareOfFullTrees(t *testing.T) {
	one, other := treeOf(t, "a", "1", "b", "2", "c", "3", "d", "4"), treeOf(t, "e", "1", "f", "2", "g", "3", "h", "4")
	for context := range maxContext + 1 {
		wantLeadsTree(t, filesOf(t, one), filesOf(t, other), context)
		wantLeadsTree(t, filesOf(t, other), filesOf(t, one), context)
	}
}

func TestCompareTellsNamesRising(t *testing.T) {
	one := treeOf(t, "z", "", "ab", "", "b", "", "y", "x")
	other := treeOf(t, "a", "", "aa", "", "y", "y", "ba", "")
	for range 10 {
		wantCompareAlways(t, one, other, comesEmpty("a", "aa")+"--- ab\n+++ /dev/null\n--- b\n+++ /dev/null\n"+comesEmpty("ba")+"--- y\n+++ y\n@@ -1 +1 @@\n-x\n"+bare+"+y\n"+bare+"--- z\n+++ /dev/null\n")
	}
}

func TestCompareWithEachContext(t *testing.T) {
	from, to := treeOf(t, "a", numbered("", 1, 13)), treeOf(t, "a", numbered("", 1, 6)+"x\n"+numbered("", 8, 13))
	for context := range maxContext + 1 {
		first, many := 7-context, 2*context+1
		wantCompare(t, from, to, context, "--- a\n+++ a\n"+head(first, many, first, many)+numbered(" ", first, 6)+"-7\n+x\n"+numbered(" ", 8, 7+context))
	}
}

func TestCompareRefusesAContext(t *testing.T) {
	for _, context := range []int{-1, maxContext + 1, 100, math.MinInt, math.MaxInt} {
		tree := abTree(t)
		for _, other := range []*tailor.Tree{tailor.New(), tree, treeOf(t, "a", "y\n")} {
			if patch, err := tree.Compare(other, context); patch != "" || err != tailor.ErrArg {
				t.Errorf("P12: Compare with context %d = %q, %d, want nothing, %d", context, patch, err, tailor.ErrArg)
			}
			if patch, err := other.Compare(tree, context); patch != "" || err != tailor.ErrArg {
				t.Errorf("P12: Compare with context %d = %q, %d, want nothing, %d", context, patch, err, tailor.ErrArg)
			}
		}
		wantFiles(t, tree, "a", "x\n", "b", "p\nq\n", "empty", "")
	}
}

// someTrees are all trees of files of some names, each with one of the texts, or
// not there.
func someTrees(names []string, texts []string) []map[string]string {
	all := []map[string]string{{}}
	for _, name := range names {
		for _, files := range slices.Clone(all) {
			for _, text := range texts {
				more := maps.Clone(files)
				more[name] = text
				all = append(all, more)
			}
		}
	}
	return all
}

func TestCompareOfAllSmallTrees(t *testing.T) {
	trees := someTrees([]string{"one", "two"}, []string{"", "a\n", "a", "a\nb\nc\n", "b\nc\nd\n", "-- two\n"})
	for _, from := range trees {
		for _, to := range trees {
			for context := range maxContext + 1 {
				wantLeadsTree(t, from, to, context)
			}
		}
	}
	trees = someTrees([]string{"a", "b", "c", "d"}, []string{"", "x"})
	for _, from := range trees {
		for _, to := range trees {
			wantLeadsTree(t, from, to, 0)
		}
	}
}

// What is answered is never above the bound of a patch: here each line between
// two that stay goes or comes, so that there are as many hunks as can be.
func TestCompareOfTheLongestTexts(t *testing.T) {
	stays, other := "", ""
	for i := range maxText / 5 {
		stays += string(rune('a'+i%26)) + "\n" + "\n"
		other += string(rune('a'+i%26)) + "\n" + "1\n"
	}
	fromOne, toOne := map[string]string{}, map[string]string{}
	for _, name := range []string{"aaaaaaaa", "bbbbbbbb", "cccccccc", "dddddddd"} {
		fromOne[name], toOne[name] = stays[:maxText/5*3], other
	}
	for context := range maxContext + 1 {
		wantLeadsTree(t, fromOne, toOne, context)
		wantLeadsTree(t, toOne, fromOne, context)
	}
	for seed := range uint32(60) {
		from, to := map[string]string{}, map[string]string{}
		for i, name := range []string{"aaaaaaaa", "bbbbbbbb", "cccccccc", "dddddddd"} {
			letters := []string{"\na", "\n\nab", "\n\n\nabc", "\n"}[(int(seed)+i)%4]
			from[name] = someText(seed+uint32(i), maxText-int(seed%3), letters)
			to[name] = someText(seed+1000+uint32(i), maxText-i, letters)
		}
		wantLeadsTree(t, from, to, int(seed)%(maxContext+1))
	}
}
