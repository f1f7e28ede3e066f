package tailor_test

import (
	"regexp"
	"slices"
	"strconv"
	"strings"

	"tailor/tailor"
)

// What stands here answers what the program answers, made unlike it: heads by
// a pattern, all lines split at once, hunks made from the last to the first.

const (
	maxPatch = 30000
	bare     = "\\ No newline at end of file\n"
)

// slowHunk has the numbers of its head, turned to those of lines ahead, and
// its steps, each with its sign, and with a newline if it is not bare.
type slowHunk struct {
	oldAhead, oldMany int
	newAhead, newMany int
	steps             []string
}

var headForm = regexp.MustCompile(`^@@ -(0|[1-9][0-9]{0,3})(?:,(0|[1-9][0-9]{0,3}))? \+(0|[1-9][0-9]{0,3})(?:,(0|[1-9][0-9]{0,3}))? @@\n$`)

// slowSpan tells how many lines stand ahead, below 0 if that cannot be.
func slowSpan(number string, many string) (int, int) {
	ahead, _ := strconv.Atoi(number)
	switch many {
	case "":
		return ahead - 1, 1
	case "0":
		return ahead, 0
	case "1":
		return -1, 1
	}
	count, _ := strconv.Atoi(many)
	return ahead - 1, count
}

func slowHead(line string) (slowHunk, bool) {
	parts := headForm.FindStringSubmatch(line)
	if parts == nil {
		return slowHunk{}, false
	}
	var h slowHunk
	h.oldAhead, h.oldMany = slowSpan(parts[1], parts[2])
	h.newAhead, h.newMany = slowSpan(parts[3], parts[4])
	return h, h.oldAhead >= 0 && h.newAhead >= 0 && h.oldMany+h.newMany > 0
}

// count tells how many of the steps have one of these signs.
func (h slowHunk) count(signs string) int {
	many := 0
	for _, step := range h.steps {
		if strings.Contains(signs, step[:1]) {
			many++
		}
	}
	return many
}

func (h slowHunk) isFull() bool {
	return h.count(" -") == h.oldMany && h.count(" +") == h.newMany
}

func (h slowHunk) hasBare() bool {
	return slices.ContainsFunc(h.steps, func(step string) bool { return !strings.HasSuffix(step, "\n") })
}

// takes tells if a line can stand behind the steps that are there.
func (h slowHunk) takes(line string) bool {
	switch {
	case !strings.HasSuffix(line, "\n"):
		return false
	case line[0] == ' ':
		return h.count(" -") < h.oldMany && h.count(" +") < h.newMany
	case line[0] == '-':
		return h.count(" -") < h.oldMany
	case line[0] == '+':
		return h.count(" +") < h.newMany
	}
	return false
}

// takesBare tells if the last step's line can be bare.
func (h slowHunk) takesBare() bool {
	if len(h.steps) == 0 {
		return false
	}
	last := h.steps[len(h.steps)-1]
	oldOver := h.count(" -") == h.oldMany
	newOver := h.count(" +") == h.newMany
	fine := map[byte]bool{' ': oldOver && newOver, '-': oldOver, '+': newOver}[last[0]]
	return fine && len(last) > 2 && strings.HasSuffix(last, "\n")
}

// slowRead tells the hunks, and the place of the fault, -1 if there is none.
func slowRead(patch string) ([]slowHunk, int) {
	var hunks []slowHunk
	at, head := 0, 0
	for _, line := range slowLines(patch) {
		var last slowHunk
		if len(hunks) > 0 {
			last = hunks[len(hunks)-1]
		}
		switch {
		case line == bare && last.takesBare():
			step := &last.steps[len(last.steps)-1]
			*step = strings.TrimSuffix(*step, "\n")
		case !last.isFull():
			if !last.takes(line) {
				return nil, at
			}
			last.steps = append(last.steps, line)
			hunks[len(hunks)-1] = last
			if last.isFull() && last.count("-+") == 0 {
				return nil, head
			}
		default:
			next, ok := slowHead(line)
			between := next.oldAhead - last.oldAhead - last.oldMany
			if !ok || between < 0 || between != next.newAhead-last.newAhead-last.newMany || last.hasBare() {
				return nil, at
			}
			hunks = append(hunks, next)
			head = at
		}
		at += len(line)
	}
	if len(hunks) > 0 && !hunks[len(hunks)-1].isFull() {
		return nil, at
	}
	return hunks, -1
}

// side is the lines of a hunk that have one of these signs.
func (h slowHunk) side(signs string) []string {
	var row []string
	for _, step := range h.steps {
		if strings.Contains(signs, step[:1]) {
			row = append(row, step[1:])
		}
	}
	return row
}

func slowApply(text string, patch string) (string, tailor.Errno, int) {
	if len(text) > maxText || len(patch) > maxPatch {
		return "", tailor.ErrLong, 0
	}
	hunks, place := slowRead(patch)
	if place >= 0 {
		return "", tailor.ErrForm, place
	}
	row := slowLines(text)
	for number, h := range hunks {
		end := h.oldAhead + h.oldMany
		if end > len(row) || !slices.Equal(row[h.oldAhead:end], h.side(" -")) || h.hasBare() && end != len(row) {
			return "", tailor.ErrHunk, number
		}
	}
	for _, h := range slices.Backward(hunks) {
		row = slices.Replace(row, h.oldAhead, h.oldAhead+h.oldMany, h.side(" +")...)
	}
	whole := strings.Join(row, "")
	if !slices.Equal(slowLines(whole), row) {
		return "", tailor.ErrHunk, len(hunks) - 1
	}
	if len(whole) > maxText {
		return "", tailor.ErrLong, 0
	}
	return whole, tailor.OK, 0
}

// headSpans finds heads alone: a step begins with its sign.
var headSpans = regexp.MustCompile(`(?m)^@@ -(\S+) \+(\S+) @@$`)

func slowReverse(patch string) (string, tailor.Errno, int) {
	if len(patch) > maxPatch {
		return "", tailor.ErrLong, 0
	}
	hunks, place := slowRead(patch)
	if place >= 0 {
		return "", tailor.ErrForm, place
	}
	back := ""
	for number, head := range headSpans.FindAllStringSubmatch(patch, -1) {
		back += "@@ -" + head[2] + " +" + head[1] + " @@\n" + hunks[number].turned()
	}
	return back, tailor.OK, 0
}

func (h slowHunk) turned() string {
	back, goes, comes := "", "", ""
	for _, step := range h.steps {
		line := step[1:]
		if !strings.HasSuffix(step, "\n") {
			line += "\n" + bare
		}
		switch step[0] {
		case '+':
			goes += "-" + line
		case '-':
			comes += "+" + line
		default:
			back += goes + comes + " " + line
			goes, comes = "", ""
		}
	}
	return back + goes + comes
}
