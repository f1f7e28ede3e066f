package tailor

import "slices"

// place is where a way from one row of lines to another stands. Its diagonal is
// x-y: a line that stays keeps to the diagonal, one that goes leads to the next
// higher one, and one that comes to the next lower one.
type place struct {
	x    int    // how many lines of the first row lie behind it
	y    int    // and of the second one
	kind kind   // of the step that leads here
	back *place // where that step begins; nowhere, if the way begins here
}

// next is the place that a step leads to.
func (p *place) next(k kind) *place {
	return &place{p.x + signs[k].old, p.y + signs[k].new, k, p}
}

// walk is Myers' search for a shortest way.
type walk struct {
	from  []string
	to    []string
	reach []*place // the farthest place found on each diagonal
	zero  int      // where in reach the diagonal 0 stands: there are lower ones
}

func newWalk(from []string, to []string) *walk {
	most := len(from) + len(to)
	// No way has more changes than all lines, and a round looks at the diagonals
	// beside its own as well.
	w := &walk{from: from, to: to, reach: make([]*place, 2*most+3), zero: most + 1}
	w.reach[w.zero] = w.slide(&place{})
	return w
}

// shortestWay is the steps through all lines of two texts that lead from the
// one to the other and change as few as can be. Of lines that go and lines that
// come side by side those that go stand first.
func shortestWay(a string, b string) []step {
	w := newWalk(slices.Collect(lines(a)), slices.Collect(lines(b)))
	var row []step
	for p := w.end(); p.back != nil; p = p.back {
		row = append(row, w.step(p))
	}
	slices.Reverse(row)
	return row
}

// step is the one that leads to a place.
func (w *walk) step(p *place) step {
	if signs[p.kind].old == 0 {
		return step{p.kind, w.to[p.back.y]}
	}
	return step{p.kind, w.from[p.back.x]}
}

// end walks till all lines of both rows lie behind, with as few changes as can
// be. Ways may lead beyond the end of a row, but steps never lead back, so the
// one that ends here did not.
func (w *walk) end() *place {
	last := w.zero + len(w.from) - len(w.to)
	for changes := 1; w.reach[last] == nil || w.reach[last].x < len(w.from); changes++ {
		w.round(changes)
	}
	return w.reach[last]
}

// round finds how far each diagonal can be gone along with so many changes. It
// goes on from the round with one fewer.
func (w *walk) round(changes int) {
	// Every change leads to a next diagonal, so every other one is out of reach.
	for diagonal := -changes; diagonal <= changes; diagonal += 2 {
		w.reach[w.zero+diagonal] = w.slide(w.change(w.zero + diagonal))
	}
}

// change leads to a diagonal from the one beside it that comes farther there.
// If both come equally far it is the higher one: the way over that one has the
// line that goes ahead of the one that comes.
func (w *walk) change(at int) *place {
	lower, higher := w.reach[at-1], w.reach[at+1]
	if higher == nil || lower != nil && lower.x >= higher.x {
		return lower.next(goes)
	}
	return higher.next(comes)
}

// slide goes on as long as lines stay, which costs nothing.
func (w *walk) slide(p *place) *place {
	for p.x < len(w.from) && p.y < len(w.to) && w.from[p.x] == w.to[p.y] {
		p = p.next(stays)
	}
	return p
}
