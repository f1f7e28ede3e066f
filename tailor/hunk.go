package tailor

import (
	"slices"
	"strconv"
	"strings"
)

// bareMark is the line behind a step whose line is bare.
const bareMark = "\\ No newline at end of file\n"

// span is lines of a text. It keeps how many lines stand ahead of it, and not
// the number that a head tells: that one hangs on the count.
type span struct {
	ahead int
	count int
}

// end is how many lines of the text stand up to the end of the span.
func (s span) end() int { return s.ahead + s.count }

func (s span) text() string {
	switch s.count {
	case 0:
		return strconv.Itoa(s.ahead) + ",0"
	case 1:
		return strconv.Itoa(s.ahead + 1)
	}
	return strconv.Itoa(s.ahead+1) + "," + strconv.Itoa(s.count)
}

// hunk is steps, and where they stand in both texts. The hunk without steps
// stands at the beginning of both: it is what stands ahead of a first one.
type hunk struct {
	old   span
	new   span
	steps []step
}

// follows tells if a hunk can stand behind another one. What lies between them
// is the same in both texts, so it has equally many lines there.
func (h hunk) follows(ahead hunk) bool {
	between := h.old.ahead - ahead.old.end()
	return between >= 0 && between == h.new.ahead-ahead.new.end() && !ahead.hasBare()
}

func (h hunk) hasBare() bool {
	return slices.ContainsFunc(h.steps, func(s step) bool { return isBare(s.line) })
}

func (h hunk) changes() bool {
	return slices.ContainsFunc(h.steps, step.changes)
}

// add puts a step at the end of the hunk.
func (h *hunk) add(s step) {
	h.steps = append(h.steps, s)
	h.old.count += signs[s.kind].old
	h.new.count += signs[s.kind].new
}

// behind is the hunk without steps that stands behind this one, with the line
// of a step between them.
func (h hunk) behind(s step) hunk {
	return hunk{
		old: span{ahead: h.old.end() + signs[s.kind].old},
		new: span{ahead: h.new.end() + signs[s.kind].new},
	}
}

// turned is the hunk that leads back.
func (h hunk) turned() hunk {
	return hunk{old: h.new, new: h.old, steps: turned(h.steps)}
}

// write adds the hunk to a patch.
func (h hunk) write(patch *strings.Builder) {
	patch.WriteString("@@ -" + h.old.text() + " +" + h.new.text() + " @@\n")
	for _, s := range h.steps {
		patch.WriteByte(signs[s.kind].mark)
		patch.WriteString(s.line)
		if isBare(s.line) {
			patch.WriteString("\n" + bareMark)
		}
	}
}
