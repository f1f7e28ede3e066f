package tailor_test

import (
	"maps"
	"math"
	"slices"
	"strings"
	"sync"
	"testing"
	"unsafe"

	"tailor/tailor"
)

// The calls as the document lists them.
var (
	_ func(string, string) (int, tailor.Errno)                     = tailor.Distance
	_ func(string, string, int) (string, tailor.Errno)             = tailor.Diff
	_ func(string, string) (string, tailor.Errno, int)             = tailor.Apply
	_ func(string) (string, tailor.Errno, int)                     = tailor.Reverse
	_ func() *tailor.Tree                                          = tailor.New
	_ func(*tailor.Tree, string, string) tailor.Errno              = (*tailor.Tree).Put
	_ func(*tailor.Tree, string) tailor.Errno                      = (*tailor.Tree).Drop
	_ func(*tailor.Tree, string) (string, tailor.Errno)            = (*tailor.Tree).Get
	_ func(*tailor.Tree) []string                                  = (*tailor.Tree).Names
	_ func(*tailor.Tree, string) (tailor.Errno, int)               = (*tailor.Tree).Patch
	_ func(*tailor.Tree, *tailor.Tree, int) (string, tailor.Errno) = (*tailor.Tree).Compare
)

// The errors as the document numbers them. The type is given, so that a
// constant of another type, or of none, does not build.
const (
	ok       tailor.Errno = tailor.OK
	errLong  tailor.Errno = tailor.ErrLong
	errArg   tailor.Errno = tailor.ErrArg
	errForm  tailor.Errno = tailor.ErrForm
	errHunk  tailor.Errno = tailor.ErrHunk
	errName  tailor.Errno = tailor.ErrName
	errFull  tailor.Errno = tailor.ErrFull
	errThere tailor.Errno = tailor.ErrThere
	errNone  tailor.Errno = tailor.ErrNone
)

func TestErrorsHaveTheirNumbers(t *testing.T) {
	inOrder := []tailor.Errno{ok, errLong, errArg, errForm, errHunk, errName, errFull, errThere, errNone}
	for number, err := range inOrder {
		if int(err) != number {
			t.Errorf("the error number %d is %d", number, err)
		}
	}
}

// oddStrings are texts, patches and names, good and bad, short and far too long.
func oddStrings() []string {
	return []string{
		"", "\n", "a", "a\n", "\n\n\n", "a\nb", "\x00", "\xff\xfe", "\r\n", "é\n",
		"@@ -2 +2 @@\n-b\n+c\n", "@@ -1 +1 @@\n-a\n\\ No newline at end of file\n+a\n",
		"@@", "@@ -0,0 +0,0 @@\n", "@@ -9999,9999 +9999,9999 @@\n", "\\", "+", "-",
		"--- a\n+++ a\n", "--- /dev/null\n+++ a\n", "--- /dev/null\n+++ b\n", "--- ", "abcdefgh", "abcdefghi",
		"--- a\n+++ a\n@@ -1 +1 @@\n-a\n\\ No newline at end of file\n+a\n", "--- a\n+++ /dev/null\n", "/dev/null",
		strings.Repeat("a", maxText), strings.Repeat("\n", maxText+1),
		strings.Repeat("\n", 30000), strings.Repeat("@@ -1 +1 @@\n", 30000),
	}
}

func TestNoCallPanics(t *testing.T) {
	numbers := []int{0, 1, 5, 6, -1, math.MaxInt, math.MinInt}
	for _, a := range oddStrings() {
		tailor.Reverse(a)
		for _, b := range oddStrings() {
			tailor.Distance(a, b)
			tailor.Apply(a, b)
			for _, number := range numbers {
				tailor.Diff(a, b, number)
			}
			useTree(a, b, numbers)
		}
	}
}

func useTree(a string, b string, numbers []int) {
	tree, other := tailor.New(), tailor.New()
	tree.Put(a, b)
	tree.Put("a", b)
	other.Put("a", a)
	tree.Get(a)
	tree.Names()
	tree.Patch(b)
	for _, number := range numbers {
		tree.Compare(other, number)
		tree.Compare(tree, number)
	}
	tree.Drop(a)
	tree.Drop(a)
}

func TestTooLongIsFoundByLength(t *testing.T) {
	huge := strings.Repeat("a\n", 1<<20)
	fine := "@@ -1 +1 @@\n-a\n+x\n"
	hugePatch := fine + huge
	hugeChange := "--- a\n+++ a\n" + hugePatch
	tree := treeOf(t, "a", "a\n", "b", "")
	for name, call := range map[string]func(){
		"Distance of a long text":        func() { tailor.Distance(huge, "") },
		"Distance to a long text":        func() { tailor.Distance("a\nb\n", huge) },
		"Distance of long texts":         func() { tailor.Distance(huge, huge) },
		"Diff of a long text":            func() { tailor.Diff(huge, "", 0) },
		"Diff to a long text":            func() { tailor.Diff("a\nb\n", huge, 0) },
		"Diff of long texts":             func() { tailor.Diff(huge, huge, -1) },
		"Apply of a long text":           func() { tailor.Apply(huge, fine) },
		"Apply of a long patch":          func() { tailor.Apply("a\nb\n", hugePatch) },
		"Apply of a long text and patch": func() { tailor.Apply(huge, hugePatch) },
		"Reverse of a long patch":        func() { tailor.Reverse(hugePatch) },
		"Put of a long text":             func() { tree.Put("a", huge) },
		"Put under a long name":          func() { tree.Put(huge, "") },
		"Put of both":                    func() { tree.Put(huge, huge) },
		"Get of a long name":             func() { tree.Get(huge) },
		"Drop of a long name":            func() { tree.Drop(huge) },
		"Patch of a long patch":          func() { tree.Patch(hugeChange) },
	} {
		if allocations := testing.AllocsPerRun(10, call); allocations != 0 {
			t.Errorf("P1: %s did other work first: %v allocations", name, allocations)
		}
	}
}

func TestAnErrorStandsBesideZero(t *testing.T) {
	for _, a := range oddStrings() {
		if back, err, _ := tailor.Reverse(a); err != tailor.OK && back != "" {
			t.Errorf("P1: Reverse of %d bytes is %q beside the error %d", len(a), back, err)
		}
		for _, b := range oddStrings() {
			number, err := tailor.Distance(a, b)
			if long := len(a) > maxText || len(b) > maxText; long != (err == tailor.ErrLong) || !long && err != tailor.OK {
				t.Errorf("P1: Distance of %d and %d bytes tells %d", len(a), len(b), err)
			}
			if err != tailor.OK && number != 0 {
				t.Errorf("P1: Distance of %d and %d bytes is %d beside the error %d", len(a), len(b), number, err)
			}
			for _, context := range []int{-1, 0, 5, 6} {
				if patch, err := tailor.Diff(a, b, context); err != tailor.OK && patch != "" {
					t.Errorf("P1: Diff of %d and %d bytes is %q beside the error %d", len(a), len(b), patch, err)
				}
			}
			text, err, at := tailor.Apply(a, b)
			if err != tailor.OK && text != "" || (err == tailor.OK || err == tailor.ErrLong) && at != 0 {
				t.Errorf("P1: Apply of %d and %d bytes is %q, %d, %d", len(a), len(b), text, err, at)
			}
		}
	}
}

func TestATreesErrorStandsBesideZero(t *testing.T) {
	placed := []tailor.Errno{tailor.ErrForm, tailor.ErrHunk, tailor.ErrThere, tailor.ErrNone}
	for _, a := range oddStrings() {
		tree := treeOf(t, "a", "a", "b", "")
		files := filesOf(t, tree)
		if text, err := tree.Get(a); err != tailor.OK && text != "" {
			t.Errorf("P1: Get of %d bytes is %q beside the error %d", len(a), text, err)
		}
		if err, at := tree.Patch(a); at != 0 && !slices.Contains(placed, err) {
			t.Errorf("P1: Patch of %d bytes tells %d beside %d", len(a), at, err)
		} else if err != tailor.OK && !maps.Equal(filesOf(t, tree), files) {
			t.Errorf("P1: Patch of %d bytes tells %d, but files have changed", len(a), err)
		}
		for _, b := range oddStrings() {
			tree := treeOf(t, "a", "a", "b", "")
			if err := tree.Put(a, b); err != tailor.OK && !maps.Equal(filesOf(t, tree), files) {
				t.Errorf("P1: Put of %d and %d bytes tells %d, but files have changed", len(a), len(b), err)
			}
		}
	}
}

// sharesMemory tells if an answer lies within what was handed in.
func sharesMemory(answer string, handed string) bool {
	if answer == "" || handed == "" {
		return false
	}
	start := uintptr(unsafe.Pointer(unsafe.StringData(handed)))
	at := uintptr(unsafe.Pointer(unsafe.StringData(answer)))
	return at >= start && at < start+uintptr(len(handed))
}

func TestAnswersAreNewMemory(t *testing.T) {
	for _, c := range []struct{ text, patch string }{
		{"a", ""},
		{"a\nb\n", ""},
		{"a\nb\n", "@@ -1 +0,0 @@\n-a\n"},
		{"", "@@ -0,0 +1 @@\n+a long line that comes\n"},
		{"a\n", "@@ -1 +1 @@\n-a\n+x\n"},
	} {
		text, patch := strings.Clone(c.text), strings.Clone(c.patch)
		got, _, _ := tailor.Apply(text, patch)
		back, _, _ := tailor.Reverse(patch)
		told, _ := tailor.Diff(text, patch, 1)
		for _, handed := range []string{text, patch} {
			if sharesMemory(got, handed) || sharesMemory(back, handed) || sharesMemory(told, handed) {
				t.Errorf("P1: Apply(%q, %q), or Reverse or Diff, answers what it was handed", c.text, c.patch)
			}
		}
	}
}

func TestATreesAnswersAreNewMemory(t *testing.T) {
	name, text := strings.Clone("name"), strings.Clone("a text\n")
	patch := strings.Clone("--- name\n+++ name\n@@ -1 +1,2 @@\n a text\n+more\n--- /dev/null\n+++ other\n@@ -0,0 +1 @@\n+a text\n")
	tree := treeOf(t, name, text)
	wantNew := func(handed ...string) {
		t.Helper()
		for _, known := range tree.Names() {
			got, _ := tree.Get(known)
			told, _ := tree.Compare(tailor.New(), 0)
			for _, old := range handed {
				if sharesMemory(known, old) || sharesMemory(got, old) || sharesMemory(told, old) {
					t.Errorf("P1: Names, Get(%q) or Compare answers what was handed in or told ahead", known)
				}
			}
		}
	}
	wantNew(name, text)
	wantPatched(t, tree, patch)
	wantNew(name, text, patch)
	for _, known := range tree.Names() {
		got, _ := tree.Get(known)
		wantNew(known, got)
	}
}

// answer is what one call answered.
type answer struct {
	text   string
	number int
	err    tailor.Errno
}

// answers asks for all pairs of the strings, from the first to the last.
func answers(strings []string) []answer {
	var all []answer
	for _, a := range strings {
		back, err, place := tailor.Reverse(a)
		all = append(all, answer{back, place, err})
		for _, b := range strings {
			all = append(all, treeAnswers(a, b)...)
			number, err := tailor.Distance(a, b)
			all = append(all, answer{"", number, err})
			patch, err := tailor.Diff(a, b, len(a)%7)
			all = append(all, answer{patch, 0, err})
			text, err, place := tailor.Apply(a, b)
			all = append(all, answer{text, place, err})
		}
	}
	return all
}

// treeAnswers asks trees of its own.
func treeAnswers(a string, b string) []answer {
	tree, other := tailor.New(), tailor.New()
	all := []answer{{"", 0, tree.Put(a, b)}, {"", 0, tree.Put("a", a)}, {"", 0, tree.Put("b", b)}, {"", 0, other.Put("b", "x\n")}}
	err, at := tree.Patch(a)
	all = append(all, answer{"", at, err})
	patch, err := tree.Compare(other, len(b)%7)
	all = append(all, answer{patch, 0, err})
	for _, name := range append(tree.Names(), a) {
		text, err := tree.Get(name)
		all = append(all, answer{name, 0, tailor.OK}, answer{text, 0, err})
	}
	return append(all, answer{"", 0, tree.Drop(a)}, answer{"", len(tree.Names()), tree.Drop("a")})
}

func TestAnswersHangOnArgumentsAlone(t *testing.T) {
	odd := oddStrings()
	want := answers(odd)
	slices.Reverse(odd)
	answers(odd)
	slices.Reverse(odd)
	if !slices.Equal(answers(odd), want) {
		t.Error("P2: a call answers otherwise after other calls")
	}
}

func TestAnswersDoNotHangOnCallsAtTheSameTime(t *testing.T) {
	odd := oddStrings()
	want := answers(odd)
	got := make([][]answer, 8)
	var all sync.WaitGroup
	for i := range got {
		all.Go(func() { got[i] = answers(odd) })
	}
	all.Wait()
	for i := range got {
		if !slices.Equal(got[i], want) {
			t.Errorf("P2: the caller %d of 8 at the same time got other answers", i)
		}
	}
}
