package tailor

import (
	"slices"
	"strings"
	"testing"
)

func TestLines(t *testing.T) {
	for _, c := range []struct {
		text string
		want []string
	}{
		{"", nil},
		{"a", []string{"a"}},
		{"\n", []string{"\n"}},
		{"a\n", []string{"a\n"}},
		{"a\nb", []string{"a\n", "b"}},
		{"\n\na", []string{"\n", "\n", "a"}},
		{"a\r\n\x00\xff\n", []string{"a\r\n", "\x00\xff\n"}},
	} {
		if got := slices.Collect(lines(c.text)); !slices.Equal(got, c.want) {
			t.Errorf("lines of %q: %q, want %q", c.text, got, c.want)
		}
	}
}

func TestLinesStopWhenAsked(t *testing.T) {
	seen := 0
	for range lines("a\nb\nc\n") {
		seen++
		if seen == 2 {
			break
		}
	}
	if seen != 2 {
		t.Errorf("%d lines seen, want 2", seen)
	}
}

func TestLinesCanBeGoneThroughAgain(t *testing.T) {
	row := lines("a\nb")
	first := strings.Join(slices.Collect(row), "|")
	second := strings.Join(slices.Collect(row), "|")
	if first != "a\n|b" || second != first {
		t.Errorf("first %q, then %q", first, second)
	}
}
