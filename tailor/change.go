package tailor

import (
	"slices"
	"strings"
)

// What the lines at the head of a change begin with, and what stands there
// instead of the name of a file that is not there.
const (
	oldMark = "--- "
	newMark = "+++ "
	nowhere = "/dev/null"
)

// change is what a patch of files says of one file: its name ahead of the change
// and behind it, empty where the file is not there, and the hunks.
type change struct {
	old   string
	new   string
	hunks []hunk
}

// difference is the change from one file of a name to another one.
func difference(name string, from file, to file, context int) change {
	c := change{hunks: slices.Collect(hunksOf(shortestWay(from.text, to.text), context))}
	if from.there {
		c.old = name
	}
	if to.there {
		c.new = name
	}
	return c
}

// name is that of the file, which may be told on one side alone.
func (c change) name() string { return max(c.old, c.new) }

// agrees tells if both sides are of one file. It must be there on one of them.
func (c change) agrees() bool {
	if c.old == "" || c.new == "" {
		return c.old != c.new
	}
	return c.old == c.new
}

// lacksHunk tells if the file stays, and nothing of it changes.
func (c change) lacksHunk() bool {
	return c.old == c.new && len(c.hunks) == 0
}

// made is what the change makes of a file (P11).
func (c change) made(f file) (file, Errno) {
	if c.old != "" && !f.there {
		return file{}, ErrNone
	}
	if c.old == "" && f.there {
		return file{}, ErrThere
	}
	text, err, _ := changed(f.text, c.hunks)
	if c.new != "" {
		return file{true, text}, err
	}
	// What is left is left, even if it is too long for a file.
	if err != OK || text != "" {
		return file{}, ErrHunk
	}
	return file{}, OK
}

// makeIn makes the change in a tree's files, or leaves them if it cannot be.
func (c change) makeIn(files map[string]file) Errno {
	f, err := c.made(files[c.name()])
	switch {
	case err != OK:
		return err
	case f.there:
		files[strings.Clone(c.name())] = f
	default:
		delete(files, c.name())
	}
	return OK
}

// write adds the change to a patch of files.
func (c change) write(patch *strings.Builder) {
	patch.WriteString(oldMark + shown(c.old) + "\n")
	patch.WriteString(newMark + shown(c.new) + "\n")
	for _, h := range c.hunks {
		h.write(patch)
	}
}

func shown(name string) string {
	if name == "" {
		return nowhere
	}
	return name
}
