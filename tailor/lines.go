package tailor

import (
	"iter"
	"strings"
)

// maxText is the most bytes that a text may have.
const maxText = 300

// lines goes through the lines of a text. Each keeps its newline: a bare line
// then differs from one that ends by its bytes alone.
func lines(text string) iter.Seq[string] {
	return func(yield func(string) bool) {
		rest := text
		for rest != "" {
			end := lineEnd(rest)
			if !yield(rest[:end]) {
				return
			}
			rest = rest[end:]
		}
	}
}

// lineEnd tells where the first line of a text is over.
func lineEnd(text string) int {
	newline := strings.IndexByte(text, '\n')
	if newline < 0 {
		return len(text)
	}
	return newline + 1
}

func isBare(line string) bool {
	return !strings.HasSuffix(line, "\n")
}
