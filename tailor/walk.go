package tailor

import "slices"

// walk is Myers' way from one row of lines to another. A place on it is x lines
// of the first row and y of the second; its diagonal is x-y, so a line that
// stays keeps to the diagonal, one that goes leads to the next higher one, and
// one that comes to the next lower one.
type walk struct {
	from  []string
	to    []string
	reach []int // the greatest x found on each diagonal
	zero  int   // where in reach the diagonal 0 stands: there are lower ones
}

func newWalk(from []string, to []string) *walk {
	most := len(from) + len(to)
	return &walk{
		from: from,
		to:   to,
		// A diagonal without a place must lose against one that has a place,
		// and a step up from it must lead to 0, where the walk begins.
		reach: slices.Repeat([]int{-1}, 2*most+1),
		zero:  most,
	}
}

// leastChanges counts the lines that go or come on a shortest way.
func leastChanges(from []string, to []string) int {
	most := len(from) + len(to)
	w := newWalk(from, to)
	for changes := range most {
		if w.arrives(changes) {
			return changes
		}
	}
	// Every line of the one row can go, and every line of the other come.
	return most
}

// arrives takes the walk as far as it comes with so many changes, and tells if
// that is the end of both rows. It must have been asked for all fewer changes,
// in turn: each round goes on from the one ahead.
func (w *walk) arrives(changes int) bool {
	// Every change leads to a next diagonal, so every other one is out of reach.
	for diagonal := -changes; diagonal <= changes; diagonal += 2 {
		at := w.zero + diagonal
		x := w.slide(max(w.reach[at-1]+1, w.reach[at+1]), diagonal)
		w.reach[at] = x
		if x >= len(w.from) && x-diagonal >= len(w.to) {
			return true
		}
	}
	return false
}

// slide goes on from x as long as lines stay, which costs nothing. A place
// beyond the end of a row slides no further, so it never beats one within.
func (w *walk) slide(x int, diagonal int) int {
	for x < len(w.from) && x-diagonal < len(w.to) && w.from[x] == w.to[x-diagonal] {
		x++
	}
	return x
}
