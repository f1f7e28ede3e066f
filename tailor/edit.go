package tailor

import (
	"slices"
	"strings"
)

// edit is a text on its way from its old lines to its new ones.
type edit struct {
	old  []string
	done int // how many of the old lines have stayed or gone
	new  []string
}

// changed answers a text in which what the hunks say has gone and come (P7).
func changed(text string, hunks []hunk) (string, Errno, int) {
	e := edit{old: slices.Collect(lines(text))}
	for number, h := range hunks {
		if !e.take(h) {
			return "", ErrHunk, number
		}
	}
	e.keepUpTo(len(e.old))
	if bareAhead(e.new) {
		return "", ErrHunk, len(hunks) - 1
	}
	return joined(e.new)
}

// take does what a hunk says, if it fits.
func (e *edit) take(h hunk) bool {
	if h.old.end() > len(e.old) {
		return false
	}
	if h.hasBare() && h.old.end() != len(e.old) {
		return false
	}
	e.keepUpTo(h.old.ahead)
	for _, s := range h.steps {
		if !signs[s.kind].make(e, s.line) {
			return false
		}
	}
	return true
}

func (e *edit) keepUpTo(end int) {
	e.new = append(e.new, e.old[e.done:end]...)
	e.done = end
}

func (e *edit) keep(line string) bool {
	return e.remove(line) && e.insert(line)
}

func (e *edit) remove(line string) bool {
	if e.old[e.done] != line {
		return false
	}
	e.done++
	return true
}

func (e *edit) insert(line string) bool {
	e.new = append(e.new, line)
	return true
}

// bareAhead tells if a bare line stands ahead of others.
func bareAhead(row []string) bool {
	bare := slices.IndexFunc(row, isBare)
	return bare >= 0 && bare < len(row)-1
}

// joined makes a text of lines. Its memory is new even for a single line.
func joined(row []string) (string, Errno, int) {
	var text strings.Builder
	for _, line := range row {
		text.WriteString(line)
	}
	if text.Len() > maxText {
		return "", ErrLong, 0
	}
	return text.String(), OK, 0
}
