package tailor_test

import (
	"maps"
	"slices"
	"strings"
	"testing"

	"tailor/tailor"
)

// names that are none: too short, too long, and with other bytes than letters
// a to z at the beginning, in between and at the end.
func wrongNames() []string {
	wrong := []string{"", "abcdefghi", strings.Repeat("a", 300), strings.Repeat("a", 1<<20), nowhere, "/", ".", "..", "a/b", "é", "ａ", "ß"}
	for _, other := range "A`{Z09-_. \n\t\r\x00\x7f/@" {
		wrong = append(wrong, string(other), string(other)+"a", "a"+string(other), "a"+string(other)+"b", "abcdefg"+string(other))
	}
	return append(wrong, "\xff", "a\xff", "\xe1", "a\x80b")
}

func rightNames() []string {
	right := []string{"ab", "ba", "aa", "zz", "abcdefgh", "zzzzzzzz", "aaaaaaaa", "readme"}
	for letter := 'a'; letter <= 'z'; letter++ {
		right = append(right, string(letter))
	}
	return right
}

// treeOf has files of these names and texts, which follow one another.
func treeOf(t *testing.T, files ...string) *tailor.Tree {
	t.Helper()
	tree := tailor.New()
	for pair := range slices.Chunk(files, 2) {
		wantPut(t, tree, pair[0], pair[1], tailor.OK)
	}
	return tree
}

func treeFrom(t *testing.T, files map[string]string) *tailor.Tree {
	t.Helper()
	tree := tailor.New()
	for name, text := range files {
		wantPut(t, tree, name, text, tailor.OK)
	}
	return tree
}

func filesOf(t *testing.T, tree *tailor.Tree) map[string]string {
	t.Helper()
	files := map[string]string{}
	for _, name := range tree.Names() {
		text, err := tree.Get(name)
		if err != tailor.OK {
			t.Errorf("P9: Get(%q) tells %d of a name that Names tells", name, err)
		}
		files[name] = text
	}
	return files
}

// wantFiles wants just these names and texts, rising by name.
func wantFiles(t *testing.T, tree *tailor.Tree, files ...string) {
	t.Helper()
	want, names := map[string]string{}, []string{}
	for pair := range slices.Chunk(files, 2) {
		want[pair[0]] = pair[1]
		names = append(names, pair[0])
	}
	if got := tree.Names(); !slices.Equal(got, names) {
		t.Errorf("P9: Names() = %q, want %q", got, names)
	}
	if got := filesOf(t, tree); !maps.Equal(got, want) {
		t.Errorf("P9: the files are %q, want %q", got, want)
	}
}

func wantPut(t *testing.T, tree *tailor.Tree, name string, text string, want tailor.Errno) {
	t.Helper()
	if err := tree.Put(name, text); err != want {
		t.Errorf("P9: Put(%.20q, %d bytes) = %d, want %d", name, len(text), err, want)
	}
}

func wantDrop(t *testing.T, tree *tailor.Tree, name string, want tailor.Errno) {
	t.Helper()
	if err := tree.Drop(name); err != want {
		t.Errorf("P9: Drop(%.20q) = %d, want %d", name, err, want)
	}
}

func wantGet(t *testing.T, tree *tailor.Tree, name string, want string, wantErr tailor.Errno) {
	t.Helper()
	if text, err := tree.Get(name); text != want || err != wantErr {
		t.Errorf("P9: Get(%.20q) = %q, %d, want %q, %d", name, text, err, want, wantErr)
	}
}

func TestANewTreeHasNoFiles(t *testing.T) {
	tree := tailor.New()
	wantFiles(t, tree)
	wantGet(t, tree, "a", "", tailor.ErrNone)
	wantDrop(t, tree, "a", tailor.ErrNone)
	wantFiles(t, tree)
}

func TestPutGetAndDrop(t *testing.T) {
	tree := treeOf(t, "b", "p\nq\n", "a", "x\n", "empty", "", "bare", "\x00\xff")
	wantFiles(t, tree, "a", "x\n", "b", "p\nq\n", "bare", "\x00\xff", "empty", "")
	wantPut(t, tree, "a", "y", tailor.OK)
	wantPut(t, tree, "b", "", tailor.OK)
	wantFiles(t, tree, "a", "y", "b", "", "bare", "\x00\xff", "empty", "")
	wantDrop(t, tree, "a", tailor.OK)
	wantDrop(t, tree, "empty", tailor.OK)
	wantFiles(t, tree, "b", "", "bare", "\x00\xff")
	wantGet(t, tree, "a", "", tailor.ErrNone)
	wantDrop(t, tree, "a", tailor.ErrNone)
	wantPut(t, tree, "a", "again", tailor.OK)
	wantFiles(t, tree, "a", "again", "b", "", "bare", "\x00\xff")
	wantDrop(t, tree, "a", tailor.OK)
	wantDrop(t, tree, "b", tailor.OK)
	wantDrop(t, tree, "bare", tailor.OK)
	wantFiles(t, tree)
}

func TestNamesRise(t *testing.T) {
	names := []string{"a", "aa", "aaaaaaab", "ab", "b", "ba", "yyyyyyyy", "z"}
	for first := range len(names) - 3 {
		some := names[first : first+4]
		for _, order := range [][]int{{0, 1, 2, 3}, {3, 2, 1, 0}, {2, 0, 3, 1}, {1, 3, 0, 2}} {
			tree := tailor.New()
			for _, at := range order {
				wantPut(t, tree, some[at], "", tailor.OK)
			}
			// Names are asked again and again: their order is always the same.
			for range 10 {
				wantFiles(t, tree, some[0], "", some[1], "", some[2], "", some[3], "")
			}
		}
	}
}

func TestNamesOfFiles(t *testing.T) {
	for _, name := range rightNames() {
		tree := tailor.New()
		wantGet(t, tree, name, "", tailor.ErrNone)
		wantDrop(t, tree, name, tailor.ErrNone)
		wantPut(t, tree, name, "x", tailor.OK)
		wantFiles(t, tree, name, "x")
		wantDrop(t, tree, name, tailor.OK)
		wantFiles(t, tree)
	}
}

func TestNamesThatAreNone(t *testing.T) {
	empty, full := tailor.New(), treeOf(t, "a", "1", "b", "2", "c", "3", "d", "4")
	for _, name := range wrongNames() {
		for _, tree := range []*tailor.Tree{empty, full} {
			wantPut(t, tree, name, "x", tailor.ErrName)
			wantGet(t, tree, name, "", tailor.ErrName)
			wantDrop(t, tree, name, tailor.ErrName)
		}
	}
	wantFiles(t, empty)
	wantFiles(t, full, "a", "1", "b", "2", "c", "3", "d", "4")
}

func TestPutUpToTheBoundAndAbove(t *testing.T) {
	most := strings.Repeat("a\n", maxText/2)
	tree := treeOf(t, "a", most, "b", "x")
	wantPut(t, tree, "a", most+"a", tailor.ErrLong)
	wantPut(t, tree, "b", strings.Repeat("\n", maxText+1), tailor.ErrLong)
	wantPut(t, tree, "c", most+most, tailor.ErrLong)
	wantFiles(t, tree, "a", most, "b", "x")
	wantPut(t, tree, "b", most, tailor.OK)
	wantFiles(t, tree, "a", most, "b", most)
}

func TestPutInAFullTree(t *testing.T) {
	tree := treeOf(t, "a", "1", "b", "2", "c", "3", "d", "")
	wantPut(t, tree, "e", "5", tailor.ErrFull)
	wantPut(t, tree, "e", "", tailor.ErrFull)
	wantPut(t, tree, "aa", "", tailor.ErrFull)
	wantFiles(t, tree, "a", "1", "b", "2", "c", "3", "d", "")
	// A file of that name is there.
	wantPut(t, tree, "a", "x", tailor.OK)
	wantPut(t, tree, "d", "y", tailor.OK)
	wantFiles(t, tree, "a", "x", "b", "2", "c", "3", "d", "y")
	wantDrop(t, tree, "b", tailor.OK)
	wantPut(t, tree, "e", "5", tailor.OK)
	wantPut(t, tree, "b", "2", tailor.ErrFull)
	wantFiles(t, tree, "a", "x", "c", "3", "d", "y", "e", "5")
}

func TestPutTellsTheErrorNamedFirst(t *testing.T) {
	long := strings.Repeat("x", maxText+1)
	tree := treeOf(t, "a", "1", "b", "2", "c", "3", "d", "4")
	wantPut(t, tree, "A", long, tailor.ErrName)
	wantPut(t, tree, "abcdefghi", long, tailor.ErrName)
	wantPut(t, tree, "A", "", tailor.ErrName)
	wantPut(t, tree, "e", long, tailor.ErrLong)
	wantPut(t, tree, "a", long, tailor.ErrLong)
	wantPut(t, tailor.New(), "A", long, tailor.ErrName)
	wantFiles(t, tree, "a", "1", "b", "2", "c", "3", "d", "4")
}

func TestTreesShareNothing(t *testing.T) {
	one, other := treeOf(t, "a", "1", "b", "2"), treeOf(t, "a", "x")
	wantPut(t, one, "c", "3", tailor.OK)
	wantDrop(t, one, "a", tailor.OK)
	wantFiles(t, other, "a", "x")
	wantPatched(t, other, "--- a\n+++ /dev/null\n@@ -1 +0,0 @@\n-x\n"+bare+"--- /dev/null\n+++ d\n")
	wantFiles(t, one, "b", "2", "c", "3")
	one.Compare(other, 0)
	other.Compare(one, 0)
	wantFiles(t, one, "b", "2", "c", "3")
	wantFiles(t, other, "d", "")
	wantFiles(t, tailor.New())
}

func TestNamesAreNewMemory(t *testing.T) {
	tree := treeOf(t, "a", "1", "b", "2", "c", "3")
	for range 2 {
		names := tree.Names()
		for i := range names {
			names[i] = "spoilt"
		}
		_ = append(names[:1], "z")
	}
	wantFiles(t, tree, "a", "1", "b", "2", "c", "3")
	one, other := tree.Names(), tree.Names()
	one[0] = "spoilt"
	if !slices.Equal(other, []string{"a", "b", "c"}) {
		t.Errorf("P1: two answers of Names share memory: %q", other)
	}
}
