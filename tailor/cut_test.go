package tailor

import (
	"slices"
	"testing"
)

// rowOf has a step for each mark, with a line of its own.
func rowOf(marks string) []step {
	var row []step
	for at, mark := range []byte(marks) {
		found, _ := kindOf(mark)
		row = append(row, step{found, string(rune('a'+at)) + "\n"})
	}
	return row
}

func sameHunk(one hunk, other hunk) bool {
	return one.old == other.old && one.new == other.new && slices.Equal(one.steps, other.steps)
}

func TestHunksOfARow(t *testing.T) {
	row := rowOf("  -+    + ")
	for _, c := range []struct {
		context int
		want    []hunk
	}{
		{0, []hunk{{span{2, 1}, span{2, 1}, row[2:4]}, {span{7, 0}, span{7, 1}, row[8:9]}}},
		{1, []hunk{{span{1, 3}, span{1, 3}, row[1:5]}, {span{6, 2}, span{6, 3}, row[7:10]}}},
		{2, []hunk{{span{0, 8}, span{0, 9}, row}}},
		{5, []hunk{{span{0, 8}, span{0, 9}, row}}},
	} {
		if got := slices.Collect(hunksOf(row, c.context)); !slices.EqualFunc(got, c.want, sameHunk) {
			t.Errorf("hunks with context %d: %v, want %v", c.context, got, c.want)
		}
	}
}

func TestRowsWithoutChangesHaveNoHunks(t *testing.T) {
	for _, marks := range []string{"", " ", "      "} {
		for context := range maxContext + 1 {
			if got := slices.Collect(hunksOf(rowOf(marks), context)); len(got) != 0 {
				t.Errorf("hunks of %q with context %d: %v", marks, context, got)
			}
		}
	}
}

func TestHunksStopWhenAsked(t *testing.T) {
	for most := 1; most <= 3; most++ {
		seen := 0
		for range hunksOf(rowOf("- + -"), 0) {
			seen++
			if seen == most {
				break
			}
		}
		if seen != most {
			t.Errorf("%d hunks seen, want %d", seen, most)
		}
	}
}

func TestHunksCanBeGoneThroughAgain(t *testing.T) {
	row := rowOf("- +  -")
	kept := slices.Clone(row)
	hunks := hunksOf(row, 1)
	first := slices.Collect(hunks)
	second := slices.Collect(hunks)
	if len(first) != 1 || !slices.EqualFunc(first, second, sameHunk) {
		t.Errorf("first %v, then %v", first, second)
	}
	if !slices.Equal(row, kept) {
		t.Errorf("the row has changed: %v", row)
	}
}
