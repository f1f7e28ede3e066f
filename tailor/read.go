package tailor

import "strings"

// maxPatch is the most bytes that a patch may have.
const maxPatch = 30000

// maxDigits is the most digits that a number of a head may have.
const maxDigits = 4

// reader goes through a patch line by line. When it cannot read on, it is left
// at the line that cannot stand where it stands.
type reader struct {
	patch string
	at    int // the first byte of the line at hand
}

// readPatch answers the parts of a patch, hunks or changes, or its error with the
// place (P6, P10).
func readPatch[T any](patch string, part func(r *reader, ahead T) (T, bool)) ([]T, Errno, int) {
	if len(patch) > maxPatch {
		return nil, ErrLong, 0
	}
	r := &reader{patch: patch}
	parts, ok := readRow(r, (*reader).hasMore, part)
	if !ok {
		return nil, ErrForm, r.at
	}
	return parts, OK, 0
}

// readRow reads what stands one behind the other, as long as more of it follows.
// What can stand there hangs on the one ahead; ahead of the first one stands the
// zero value.
func readRow[T any](r *reader, follows func(r *reader) bool, read func(r *reader, ahead T) (T, bool)) ([]T, bool) {
	var row []T
	var ahead T
	for follows(r) {
		next, ok := read(r, ahead)
		if !ok {
			return nil, false
		}
		row = append(row, next)
		ahead = next
	}
	return row, true
}

func (r *reader) hasMore() bool { return r.at < len(r.patch) }

// hasMoreHunks tells if what follows belongs to the change at hand: all does but
// the beginning of the next one.
func (r *reader) hasMoreHunks() bool {
	return r.hasMore() && !strings.HasPrefix(r.line(), oldMark)
}

// change reads a change that stands behind another one.
func (r *reader) change(ahead change) (change, bool) {
	start := r.at
	c, ok := r.names()
	if !ok {
		return change{}, false
	}
	c.hunks, ok = readRow(r, (*reader).hasMoreHunks, (*reader).hunk)
	if !ok {
		return change{}, false
	}
	if c.lacksHunk() || c.name() <= ahead.name() {
		r.at = start
		return change{}, false
	}
	return c, true
}

// names reads the lines at the head of a change. If they are fine by themselves,
// but not together, it is the second one that cannot stand there.
func (r *reader) names() (change, bool) {
	var c change
	var ok bool
	c.old, ok = readName(r.line(), oldMark)
	if !ok {
		return change{}, false
	}
	r.pass()
	c.new, ok = readName(r.line(), newMark)
	if !ok || !c.agrees() {
		return change{}, false
	}
	r.pass()
	return c, true
}

// readName answers the empty name for a file that is not there.
func readName(line string, mark string) (string, bool) {
	inner, begins := strings.CutPrefix(line, mark)
	name, ends := strings.CutSuffix(inner, "\n")
	if name == nowhere {
		return "", begins && ends
	}
	return name, begins && ends && isName(name)
}

// line is the line at hand, with its newline. It has none if it breaks off, or
// if the patch is over.
func (r *reader) line() string {
	rest := r.patch[r.at:]
	return rest[:lineEnd(rest)]
}

func (r *reader) pass() {
	r.at += len(r.line())
}

// hunk reads a hunk that stands behind another one.
func (r *reader) hunk(ahead hunk) (hunk, bool) {
	start := r.at
	h, ok := readHead(r.line())
	if !ok || !h.follows(ahead) {
		return hunk{}, false
	}
	r.pass()
	h.steps, ok = r.steps(h.old.count, h.new.count)
	if !ok {
		return hunk{}, false
	}
	// If both spans are none there are no steps, so that is found here as well.
	if !h.changes() {
		r.at = start
		return hunk{}, false
	}
	return h, true
}

// steps reads steps till they have so many lines of the old text and so many
// of the new one.
func (r *reader) steps(oldLeft int, newLeft int) ([]step, bool) {
	var row []step
	for oldLeft+newLeft > 0 {
		s, ok := readStep(r.line())
		has := signs[s.kind]
		if !ok || has.old > oldLeft || has.new > newLeft {
			return nil, false
		}
		r.pass()
		oldLeft -= has.old
		newLeft -= has.new
		// A line can be bare only where it is the last one of each span it is in.
		if has.old*oldLeft+has.new*newLeft == 0 {
			s.line = r.bared(s.line)
		}
		row = append(row, s)
	}
	return row, true
}

// bared takes the newline from a line, if the line at hand says so. Where that
// one cannot stand it is left unread: it is neither a step nor a head, so it is
// refused as what comes next.
func (r *reader) bared(line string) string {
	if line == "\n" || r.line() != bareMark {
		return line
	}
	r.pass()
	return strings.TrimSuffix(line, "\n")
}

func readStep(line string) (step, bool) {
	// This is so, too, if there is no line any more.
	if isBare(line) {
		return step{}, false
	}
	found, ok := kindOf(line[0])
	return step{found, line[1:]}, ok
}

func readHead(line string) (hunk, bool) {
	inner, begins := strings.CutPrefix(line, "@@ -")
	inner, ends := strings.CutSuffix(inner, " @@\n")
	// A span that is missing is empty, and so none.
	first, second, _ := strings.Cut(inner, " +")
	oldSpan, oldFine := readSpan(first)
	newSpan, newFine := readSpan(second)
	return hunk{old: oldSpan, new: newSpan}, begins && ends && oldFine && newFine
}

func readSpan(text string) (span, bool) {
	first, many, told := strings.Cut(text, ",")
	ahead, fine := readNumber(first)
	count := 1
	if told {
		var countFine bool
		count, countFine = readNumber(many)
		fine = fine && countFine && count != 1
	}
	if count > 0 {
		ahead--
	}
	// There is no line 0, but lines can be none behind it.
	return span{ahead, count}, fine && ahead >= 0
}

func readNumber(text string) (int, bool) {
	if text == "" || len(text) > maxDigits || text[0] == '0' && text != "0" {
		return 0, false
	}
	number := 0
	for i := range len(text) {
		if text[i] < '0' || text[i] > '9' {
			return 0, false
		}
		number = number*10 + int(text[i]-'0')
	}
	return number, true
}
