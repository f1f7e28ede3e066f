package tailor

// kind is where in the table a step's sign stands.
type kind int

const (
	stays kind = iota
	goes
	comes
)

// step is a line, and what becomes of it. The line keeps its newline, if it is
// not bare, as the lines of a text do: so the two are held against each other
// as they are.
type step struct {
	kind kind
	line string
}

// sign is what the steps of one kind mean, and how they are made and undone.
type sign struct {
	mark byte                            // what the step begins with
	old  int                             // how many lines of the old text it has: one or none
	new  int                             // and of the new one
	make func(e *edit, line string) bool // does what the step says; not if another line stands there
	undo func(line string) step          // the step that takes it back
}

// signs has a row for each kind. Whoever goes through steps asks it, so that no
// other place must know what a sign means.
var signs [3]sign

func init() {
	signs[stays] = sign{mark: ' ', old: 1, new: 1, make: (*edit).keep, undo: stay}
	signs[goes] = sign{mark: '-', old: 1, new: 0, make: (*edit).remove, undo: come}
	signs[comes] = sign{mark: '+', old: 0, new: 1, make: (*edit).insert, undo: goAway}
}

func stay(line string) step   { return step{stays, line} }
func goAway(line string) step { return step{goes, line} }
func come(line string) step   { return step{comes, line} }

// kindOf tells what kind of step begins with a mark, if one does.
func kindOf(mark byte) (kind, bool) {
	for at, s := range signs {
		if s.mark == mark {
			return kind(at), true
		}
	}
	return 0, false
}

// changes tells if the step's line stands in just one of the texts.
func (s step) changes() bool {
	return signs[s.kind].old != signs[s.kind].new
}

// turned is the row of steps that leads back. Undoing alone would leave what
// comes now ahead of what goes, where they stand side by side.
func turned(steps []step) []step {
	row := make([]step, 0, len(steps))
	for _, s := range steps {
		row = append(row, signs[s.kind].undo(s.line))
	}
	return goesFirst(row)
}

// goesFirst puts, of steps that change lines side by side, those first whose
// line goes, and leaves their order else.
func goesFirst(steps []step) []step {
	row := make([]step, 0, len(steps))
	var waiting []step
	for _, s := range steps {
		if signs[s.kind].old == 0 {
			waiting = append(waiting, s)
			continue
		}
		if !s.changes() {
			row = append(row, waiting...)
			waiting = waiting[:0]
		}
		row = append(row, s)
	}
	return append(row, waiting...)
}
