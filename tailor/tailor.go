// Package tailor tells how texts differ, and changes them so: see DOC.md.
package tailor

import (
	"maps"
	"slices"
	"strings"
)

// Errno is what a call answers: OK or the reason for a refusal.
type Errno int

const (
	OK       Errno = 0
	ErrLong  Errno = 1 // above a bound
	ErrArg   Errno = 2 // a number that may not be
	ErrForm  Errno = 3 // no patch
	ErrHunk  Errno = 4 // a patch that does not fit
	ErrName  Errno = 5 // no file's name
	ErrFull  Errno = 6 // too many files
	ErrThere Errno = 7 // a file that is there already
	ErrNone  Errno = 8 // a file that is not there
)

// Distance tells how many lines must go and come (P3).
func Distance(a string, b string) (int, Errno) {
	if max(len(a), len(b)) > maxText {
		return 0, ErrLong
	}
	changes := 0
	for _, s := range shortestWay(a, b) {
		if s.changes() {
			changes++
		}
	}
	return changes, OK
}

// Diff answers a patch from a to b (P4, P5).
func Diff(a string, b string, context int) (string, Errno) {
	if max(len(a), len(b)) > maxText {
		return "", ErrLong
	}
	if !isContext(context) {
		return "", ErrArg
	}
	var patch strings.Builder
	for h := range hunksOf(shortestWay(a, b), context) {
		h.write(&patch)
	}
	return patch.String(), OK
}

// Apply changes a text by a patch (P6, P7).
func Apply(text string, patch string) (string, Errno, int) {
	if len(text) > maxText {
		return "", ErrLong, 0
	}
	hunks, err, place := readPatch(patch, (*reader).hunk)
	if err != OK {
		return "", err, place
	}
	return changed(text, hunks)
}

// Reverse turns a patch round (P8).
func Reverse(patch string) (string, Errno, int) {
	hunks, err, place := readPatch(patch, (*reader).hunk)
	if err != OK {
		return "", err, place
	}
	var back strings.Builder
	for _, h := range hunks {
		h.turned().write(&back)
	}
	return back.String(), OK, 0
}

// Tree is files. Make it by New.
type Tree struct {
	files map[string]file // by their names; just those that are there
}

// New makes a tree without files (P9).
func New() *Tree {
	return &Tree{files: map[string]file{}}
}

// Put lays a file (P9).
func (t *Tree) Put(name string, text string) Errno {
	if !isName(name) {
		return ErrName
	}
	if len(text) > maxText {
		return ErrLong
	}
	if len(t.files) == maxFiles && !t.files[name].there {
		return ErrFull
	}
	t.files[strings.Clone(name)] = file{true, strings.Clone(text)}
	return OK
}

// Drop takes a file away (P9).
func (t *Tree) Drop(name string) Errno {
	if _, err := t.find(name); err != OK {
		return err
	}
	delete(t.files, name)
	return OK
}

// Get tells a file's text (P9).
func (t *Tree) Get(name string) (string, Errno) {
	f, err := t.find(name)
	return strings.Clone(f.text), err
}

// find answers a file that must be there.
func (t *Tree) find(name string) (file, Errno) {
	if !isName(name) {
		return file{}, ErrName
	}
	f := t.files[name]
	if !f.there {
		return file{}, ErrNone
	}
	return f, OK
}

// Names tells the files' names (P9).
func (t *Tree) Names() []string {
	names := make([]string, 0, len(t.files))
	for name := range t.files {
		names = append(names, strings.Clone(name))
	}
	slices.Sort(names)
	return names
}

// Patch changes the files, all or none (P10, P11).
func (t *Tree) Patch(patch string) (Errno, int) {
	changes, err, place := readPatch(patch, (*reader).change)
	if err != OK {
		return err, place
	}
	// They are made in a copy, so that none is if one cannot be.
	files := maps.Clone(t.files)
	for number, c := range changes {
		if err := c.makeIn(files); err != OK {
			return err, number
		}
	}
	if len(files) > maxFiles {
		return ErrFull, 0
	}
	t.files = files
	return OK, 0
}

// Compare answers a patch from t to u (P12).
func (t *Tree) Compare(u *Tree, context int) (string, Errno) {
	if !isContext(context) {
		return "", ErrArg
	}
	names := append(t.Names(), u.Names()...)
	slices.Sort(names)
	var patch strings.Builder
	for _, name := range slices.Compact(names) {
		from, to := t.files[name], u.files[name]
		if from != to {
			difference(name, from, to, context).write(&patch)
		}
	}
	return patch.String(), OK
}
