package tailor_test

import (
	"strings"
	"testing"

	"tailor/tailor"
)

const maxText = 300

// wantDistance asks both ways round: what goes one way comes the other way.
func wantDistance(t *testing.T, a string, b string, want int, wantErr tailor.Errno) {
	t.Helper()
	if got, err := tailor.Distance(a, b); got != want || err != wantErr {
		t.Errorf("P3: Distance(%q, %q) = %d, %d, want %d, %d", a, b, got, err, want, wantErr)
	}
	if got, err := tailor.Distance(b, a); got != want || err != wantErr {
		t.Errorf("P3: Distance(%q, %q) = %d, %d, want %d, %d", b, a, got, err, want, wantErr)
	}
}

// slowLines and slowDistance are made unlike the program's own: by splitting,
// and by a table of the longest rows that stay.
func slowLines(text string) []string {
	row := strings.SplitAfter(text, "\n")
	if row[len(row)-1] == "" {
		row = row[:len(row)-1]
	}
	return row
}

func slowDistance(a string, b string) int {
	from, to := slowLines(a), slowLines(b)
	stay := make([][]int, len(from)+1)
	stay[0] = make([]int, len(to)+1)
	for i, gone := range from {
		stay[i+1] = make([]int, len(to)+1)
		for j, come := range to {
			stay[i+1][j+1] = max(stay[i][j+1], stay[i+1][j])
			if gone == come {
				stay[i+1][j+1] = max(stay[i+1][j+1], stay[i][j]+1)
			}
		}
	}
	return len(from) + len(to) - 2*stay[len(from)][len(to)]
}

// shortTexts are all texts of at most so many of these letters.
func shortTexts(letters string, most int) []string {
	all := []string{""}
	longest := all
	for range most {
		var longer []string
		for _, text := range longest {
			for _, letter := range letters {
				longer = append(longer, text+string(letter))
			}
		}
		all = append(all, longer...)
		longest = longer
	}
	return all
}

// someText has at most size bytes, and hangs on seed alone.
func someText(seed uint32, size int, letters string) string {
	var text strings.Builder
	for range size {
		seed = seed*1664525 + 1013904223
		text.WriteByte(letters[int(seed>>16)%len(letters)])
	}
	return text.String()
}

func TestDistanceOfOrdinaryTexts(t *testing.T) {
	wantDistance(t, "a\nb\n", "a\nc\n", 2, tailor.OK)
	wantDistance(t, "a\nb\n", "a\nb\n", 0, tailor.OK)
	wantDistance(t, "a\nb\nc\n", "a\nc\n", 1, tailor.OK)
	wantDistance(t, "a\nb\nc\nd\n", "d\na\nb\nc\n", 2, tailor.OK)
	wantDistance(t, "a\nb\nc\na\nb\nb\na\n", "c\nb\na\nb\na\nc\n", 5, tailor.OK)
	// A line is one thing: it does not stay in part.
	wantDistance(t, "one long line\n", "one long lime\n", 2, tailor.OK)
	wantDistance(t, "ab\n", "a\nb\n", 3, tailor.OK)
}

func TestDistanceOfTheEmptyText(t *testing.T) {
	wantDistance(t, "", "", 0, tailor.OK)
	wantDistance(t, "", "a", 1, tailor.OK)
	wantDistance(t, "", "\n", 1, tailor.OK)
	wantDistance(t, "", "a\nb\nc", 3, tailor.OK)
}

func TestDistanceOfBareLines(t *testing.T) {
	wantDistance(t, "a", "a", 0, tailor.OK)
	wantDistance(t, "a", "a\n", 2, tailor.OK)
	wantDistance(t, "a\nb", "a\nb\n", 2, tailor.OK)
	wantDistance(t, "x\na", "a\nx", 4, tailor.OK)
	wantDistance(t, "a\na", "a\n", 1, tailor.OK)
	wantDistance(t, "a\na", "a", 1, tailor.OK)
}

func TestDistanceOfLinesOfNoBytes(t *testing.T) {
	wantDistance(t, "\n", "\n", 0, tailor.OK)
	wantDistance(t, "\n\n\n", "\n", 2, tailor.OK)
	wantDistance(t, "a\n", "a\n\n", 1, tailor.OK)
	wantDistance(t, "a\n\nb\n", "a\nb\n", 1, tailor.OK)
	wantDistance(t, "\na", "a", 1, tailor.OK)
}

func TestDistanceTakesAllBytes(t *testing.T) {
	wantDistance(t, "a\r\n", "a\n", 2, tailor.OK)
	wantDistance(t, "a\rb", "a\rc", 2, tailor.OK)
	wantDistance(t, "\x00\n", "\n", 2, tailor.OK)
	wantDistance(t, "\xff\n", "\xfe\n", 2, tailor.OK)
	wantDistance(t, "\xff\n", "\uFFFD\n", 2, tailor.OK)
	wantDistance(t, "a \n", "a\n", 2, tailor.OK)
	wantDistance(t, "A\n", "a\n", 2, tailor.OK)
}

func TestDistanceUpToTheBound(t *testing.T) {
	empty := strings.Repeat("\n", maxText)
	wantDistance(t, empty, empty, 0, tailor.OK)
	wantDistance(t, empty, "", maxText, tailor.OK)
	wantDistance(t, empty, empty[1:], 1, tailor.OK)
	wantDistance(t, empty, strings.Repeat("a\n", maxText/2), maxText+maxText/2, tailor.OK)
	wantDistance(t, strings.Repeat("a", maxText), strings.Repeat("b", maxText), 2, tailor.OK)
	wantDistance(t, strings.Repeat("a\n", maxText/2), strings.Repeat("b\n", maxText/2), maxText, tailor.OK)
}

func TestDistanceAboveTheBound(t *testing.T) {
	for _, long := range []string{
		strings.Repeat("a", maxText+1),
		strings.Repeat("\n", maxText+1),
		strings.Repeat("a\n", maxText),
	} {
		wantDistance(t, long, "", 0, tailor.ErrLong)
		wantDistance(t, long, long[:maxText], 0, tailor.ErrLong)
		wantDistance(t, long, long, 0, tailor.ErrLong)
	}
	// The bound is one of bytes, not of runes.
	wantDistance(t, strings.Repeat("é", maxText/2), "", 1, tailor.OK)
	wantDistance(t, strings.Repeat("é", maxText/2+1), "", 0, tailor.ErrLong)
}

func TestDistanceIsLeastForAllShortTexts(t *testing.T) {
	texts := shortTexts("ab\n", 5)
	for _, a := range texts {
		for _, b := range texts {
			got, err := tailor.Distance(a, b)
			if want := slowDistance(a, b); got != want || err != tailor.OK {
				t.Fatalf("P3: Distance(%q, %q) = %d, %d, want %d, 0", a, b, got, err, want)
			}
		}
	}
}

func TestDistanceIsLeastForLongTexts(t *testing.T) {
	for seed := range uint32(400) {
		letters := []string{"\na", "\n\nab", "\n\n\nabc", "\nab"}[seed%4]
		a := someText(seed, maxText-int(seed%7), letters)
		b := someText(seed+1000, maxText-int(seed%200), letters)
		wantDistance(t, a, b, slowDistance(a, b), tailor.OK)
		// Texts that share most of their lines go other ways than strange ones.
		shared := a[:50] + b[:10] + a[60:200]
		wantDistance(t, a, shared, slowDistance(a, shared), tailor.OK)
	}
}
