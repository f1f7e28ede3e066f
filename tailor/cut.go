package tailor

import (
	"iter"
	"slices"
)

// maxContext is the most steps that a line may be away from a change to stand
// in its hunk.
const maxContext = 5

func isContext(away int) bool { return away >= 0 && away <= maxContext }

// hunksOf goes through the hunks of a row of steps that leads through all of a
// text. The lines that stay too far from a change lie between the hunks.
func hunksOf(steps []step, context int) iter.Seq[hunk] {
	return func(yield func(hunk) bool) {
		var h hunk
		for at, s := range steps {
			if isNear(steps, at, context) {
				h.add(s)
				continue
			}
			if h.changes() && !yield(h) {
				return
			}
			h = h.behind(s)
		}
		if h.changes() {
			yield(h)
		}
	}
}

// isNear tells if a change is at most so many steps away.
func isNear(steps []step, at int, away int) bool {
	first := max(at-away, 0)
	end := min(at+away+1, len(steps))
	return slices.ContainsFunc(steps[first:end], step.changes)
}
