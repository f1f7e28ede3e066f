package tailor_test

import (
	"maps"
	"regexp"
	"strings"

	"tailor/tailor"
)

// What stands here answers what a tree answers, made unlike the program: the
// head of a change by a pattern, its hunks by trying where they end.

const maxFiles = 4

// slowChange has its hunks as the patch of a text, and the place of its first
// line.
type slowChange struct {
	old, new string
	hunks    string
	place    int
}

const nowhere = "/dev/null"

var (
	oldForm = regexp.MustCompile(`^--- ([a-z]{1,8}|/dev/null)\n$`)
	newForm = regexp.MustCompile(`^\+\+\+ ([a-z]{1,8}|/dev/null)\n$`)
)

func (c slowChange) name() string {
	if c.old == nowhere {
		return c.new
	}
	return c.old
}

// firstLine is empty if there is none.
func firstLine(text string) string {
	return strings.SplitAfter(text, "\n")[0]
}

// slowEnd tells where the hunks of a change end: ahead of the first line that
// begins the next one, and ahead of which they are a patch; else at the end.
func slowEnd(rest string) int {
	at := 0
	for _, line := range slowLines(rest) {
		if strings.HasPrefix(line, "--- ") {
			if _, place := slowRead(rest[:at]); place < 0 {
				return at
			}
		}
		at += len(line)
	}
	return at
}

// slowReadChange reads the change that begins at a place of a patch. It tells
// how long it is, and the place of the fault, -1 if there is none.
func slowReadChange(patch string, at int) (slowChange, int, int) {
	first := firstLine(patch[at:])
	behind := at + len(first)
	second := firstLine(patch[behind:])
	start := behind + len(second)
	oldName, newName := oldForm.FindStringSubmatch(first), newForm.FindStringSubmatch(second)
	if oldName == nil {
		return slowChange{}, 0, at
	}
	if newName == nil || oldName[1] == nowhere && newName[1] == nowhere {
		return slowChange{}, 0, behind
	}
	c := slowChange{old: oldName[1], new: newName[1], place: at}
	if c.old != nowhere && c.new != nowhere && c.old != c.new {
		return slowChange{}, 0, behind
	}
	c.hunks = patch[start : start+slowEnd(patch[start:])]
	if _, place := slowRead(c.hunks); place >= 0 {
		return slowChange{}, 0, start + place
	}
	if c.hunks == "" && c.old == c.new {
		return slowChange{}, 0, at
	}
	return c, start + len(c.hunks) - at, -1
}

// slowChanges tells the changes, and the place of the fault, -1 if there is none.
func slowChanges(patch string) ([]slowChange, int) {
	var changes []slowChange
	for at := 0; at < len(patch); {
		c, long, place := slowReadChange(patch, at)
		if place >= 0 {
			return nil, place
		}
		if len(changes) > 0 && changes[len(changes)-1].name() >= c.name() {
			return nil, c.place
		}
		changes = append(changes, c)
		at += long
	}
	return changes, -1
}

// slowPatch tells the files behind a patch: those ahead of it, with an error.
func slowPatch(files map[string]string, patch string) (map[string]string, tailor.Errno, int) {
	if len(patch) > maxPatch {
		return files, tailor.ErrLong, 0
	}
	changes, place := slowChanges(patch)
	if place >= 0 {
		return files, tailor.ErrForm, place
	}
	after := maps.Clone(files)
	for number, c := range changes {
		if err := slowMake(after, c); err != tailor.OK {
			return files, err, number
		}
	}
	if len(after) > maxFiles {
		return files, tailor.ErrFull, 0
	}
	return after, tailor.OK, 0
}

func slowMake(files map[string]string, c slowChange) tailor.Errno {
	text, there := files[c.name()]
	if c.old != nowhere && !there {
		return tailor.ErrNone
	}
	if c.old == nowhere && there {
		return tailor.ErrThere
	}
	after, err, _ := slowApply(text, c.hunks)
	switch {
	case c.new == nowhere && (err != tailor.OK || after != ""):
		return tailor.ErrHunk
	case err != tailor.OK:
		return err
	case c.new == nowhere:
		delete(files, c.name())
	default:
		files[c.name()] = after
	}
	return tailor.OK
}
