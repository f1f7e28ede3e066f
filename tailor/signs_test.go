package tailor

import (
	"slices"
	"testing"
)

// What is undone twice is as it was, and each sign has a mark of its own.
func TestSignsAreFilledAtStartUp(t *testing.T) {
	for at, s := range signs {
		if found, ok := kindOf(s.mark); !ok || found != kind(at) {
			t.Errorf("the mark %q is found as %d, %t, want %d", s.mark, found, ok, at)
		}
		back := s.undo("a\n")
		if again := signs[back.kind].undo(back.line); again != (step{kind(at), "a\n"}) {
			t.Errorf("the sign %q undone twice is %v", s.mark, again)
		}
		if undoer := signs[back.kind]; undoer.old != s.new || undoer.new != s.old {
			t.Errorf("the sign %q is undone by %q, which has other lines", s.mark, undoer.mark)
		}
	}
	for _, mark := range []byte{0, '\n', '\\', '@', 'a'} {
		if _, ok := kindOf(mark); ok {
			t.Errorf("the mark %q is that of a step", mark)
		}
	}
}

func TestSignsSayHowTheirStepsAreMade(t *testing.T) {
	for at, s := range signs {
		e := edit{old: []string{"a\n"}}
		if !s.make(&e, "a\n") || e.done != s.old || len(e.new) != s.new {
			t.Errorf("the sign %q took %d lines and made %q, want %d and %d", s.mark, e.done, e.new, s.old, s.new)
		}
		e = edit{old: []string{"b\n"}}
		if made := s.make(&e, "a\n"); made != (kind(at) == comes) {
			t.Errorf("the sign %q where another line stands: %t", s.mark, made)
		}
	}
}

func TestWhatGoesStandsFirstSideBySide(t *testing.T) {
	row := []step{{comes, "a"}, {goes, "b"}, {stays, "c"}, {comes, "d"}, {stays, "e"}, {goes, "f"}, {comes, "g"}, {goes, "h"}, {comes, "i"}}
	kept := slices.Clone(row)
	want := []step{{goes, "b"}, {comes, "a"}, {stays, "c"}, {comes, "d"}, {stays, "e"}, {goes, "f"}, {goes, "h"}, {comes, "g"}, {comes, "i"}}
	if got := goesFirst(row); !slices.Equal(got, want) {
		t.Errorf("goesFirst: %v, want %v", got, want)
	}
	if !slices.Equal(row, kept) {
		t.Errorf("goesFirst changed what it was handed: %v", row)
	}
}
