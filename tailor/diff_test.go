package tailor_test

import (
	"math"
	"strconv"
	"strings"
	"testing"

	"tailor/tailor"
)

const maxContext = 5

// wantDiff is for pairs of texts of which just one patch is right.
func wantDiff(t *testing.T, a string, b string, context int, want string) {
	t.Helper()
	if got, err := tailor.Diff(a, b, context); got != want || err != tailor.OK {
		t.Errorf("P4, P5: Diff(%q, %q, %d) = %q, %d, want %q, 0", a, b, context, got, err, want)
	}
	wantLeads(t, a, b, context)
}

// wantDiffAlways is for those whose patch is the same with every context.
func wantDiffAlways(t *testing.T, a string, b string, want string) {
	t.Helper()
	for context := range maxContext + 1 {
		wantDiff(t, a, b, context, want)
	}
}

func wantNoDiff(t *testing.T, a string, b string, context int, want tailor.Errno) {
	t.Helper()
	if got, err := tailor.Diff(a, b, context); got != "" || err != want {
		t.Errorf("P4: Diff of %d and %d bytes with context %d = %q, %d, want nothing, %d", len(a), len(b), context, got, err, want)
	}
}

// wantLeads holds a patch against what P4 and P5 say of every patch.
func wantLeads(t *testing.T, a string, b string, context int) {
	t.Helper()
	patch, err := tailor.Diff(a, b, context)
	if err != tailor.OK {
		t.Fatalf("P4: Diff(%q, %q, %d) tells %d", a, b, context, err)
	}
	if there, err, _ := slowApply(a, patch); there != b || err != tailor.OK {
		t.Fatalf("P4: Diff(%q, %q, %d) = %q, which leads to %q, %d", a, b, context, patch, there, err)
	}
	if there, err, _ := tailor.Apply(a, patch); there != b || err != tailor.OK {
		t.Fatalf("P4: Diff(%q, %q, %d) = %q, which Apply takes to %q, %d", a, b, context, patch, there, err)
	}
	turned, _, _ := tailor.Reverse(patch)
	if back, err, _ := tailor.Apply(b, turned); back != a || err != tailor.OK {
		t.Fatalf("P4: Diff(%q, %q, %d) = %q, which turned round leads back to %q, %d", a, b, context, patch, back, err)
	}
	hunks, _ := slowRead(patch)
	if fault := shapeFault(wholeRow(a, hunks), context); fault != "" {
		t.Fatalf("P5: Diff(%q, %q, %d) = %q: %s", a, b, context, patch, fault)
	}
	changes, _ := tailor.Distance(a, b)
	if got, want := changesOf(hunks), slowDistance(a, b); got != want || changes != want {
		t.Fatalf("P4: Diff(%q, %q, %d) = %q: %d lines go and come, %d by Distance, want %d", a, b, context, patch, got, changes, want)
	}
}

func changesOf(hunks []slowHunk) int {
	changes := 0
	for _, h := range hunks {
		changes += h.count("-+")
	}
	return changes
}

// rowStep is a step's sign and its hunk, from 1 on; 0, if it lies between.
type rowStep struct {
	sign byte
	hunk int
}

func (s rowStep) stays() bool { return s.sign == ' ' }

// wholeRow is the steps of all lines, those of the hunks and those between.
func wholeRow(a string, hunks []slowHunk) []rowStep {
	var row []rowStep
	done := 0
	for number, h := range hunks {
		for range h.oldAhead - done {
			row = append(row, rowStep{' ', 0})
		}
		for _, step := range h.steps {
			row = append(row, rowStep{step[0], number + 1})
		}
		done = h.oldAhead + h.oldMany
	}
	for range len(slowLines(a)) - done {
		row = append(row, rowStep{' ', 0})
	}
	return row
}

// shapeFault tells what in a row is not as P5 says, if anything is not.
func shapeFault(row []rowStep, context int) string {
	for i, one := range row {
		nearest := math.MaxInt
		for j, other := range row {
			if !other.stays() {
				nearest = min(nearest, max(i-j, j-i))
			}
		}
		if near := nearest <= context; near != (one.hunk > 0) {
			return "step " + strconv.Itoa(i) + " stands in hunk " + strconv.Itoa(one.hunk) + ", " + strconv.Itoa(nearest) + " steps from a change"
		}
		if i == 0 {
			continue
		}
		ahead := row[i-1]
		if ahead.hunk > 0 && one.hunk > 0 && ahead.hunk != one.hunk {
			return "hunk " + strconv.Itoa(one.hunk) + " stands right behind another"
		}
		if ahead.sign == '+' && one.sign == '-' {
			return "step " + strconv.Itoa(i) + " goes behind one that comes"
		}
	}
	return ""
}

// numbered is the lines from one number to another, each with a sign ahead.
func numbered(sign string, first int, last int) string {
	text := ""
	for number := first; number <= last; number++ {
		text += sign + strconv.Itoa(number) + "\n"
	}
	return text
}

// head writes one for spans of so many lines each.
func head(oldFirst int, oldMany int, newFirst int, newMany int) string {
	span := func(first int, many int) string {
		switch many {
		case 0:
			return strconv.Itoa(first-1) + ",0"
		case 1:
			return strconv.Itoa(first)
		}
		return strconv.Itoa(first) + "," + strconv.Itoa(many)
	}
	return "@@ -" + span(oldFirst, oldMany) + " +" + span(newFirst, newMany) + " @@\n"
}

func TestDiffOfOrdinaryTexts(t *testing.T) {
	wantDiff(t, "a\nb\n", "a\nc\n", 0, "@@ -2 +2 @@\n-b\n+c\n")
	wantDiff(t, "a\nb\n", "a\nc\n", 1, "@@ -1,2 +1,2 @@\n a\n-b\n+c\n")
	wantDiff(t, "a\nb\nc\n", "a\nc\n", 0, "@@ -2 +1,0 @@\n-b\n")
	wantDiff(t, "a\nb\nc\n", "a\nc\n", 1, "@@ -1,3 +1,2 @@\n a\n-b\n c\n")
	wantDiff(t, "a\nc\n", "a\nb\nc\n", 0, "@@ -1,0 +2 @@\n+b\n")
	wantDiff(t, "a\nc\n", "a\nb\nc\n", 1, "@@ -1,2 +1,3 @@\n a\n+b\n c\n")
	wantDiff(t, "a\nb\nc\nd\n", "d\na\nb\nc\n", 0, "@@ -0,0 +1 @@\n+d\n@@ -4 +4,0 @@\n-d\n")
	wantDiffAlways(t, "one long line\n", "one long lime\n", "@@ -1 +1 @@\n-one long line\n+one long lime\n")
	wantDiffAlways(t, "\x00\xff\r\n", "\x00\xfe\r\n", "@@ -1 +1 @@\n-\x00\xff\r\n+\x00\xfe\r\n")
	// Lines that look like those of a patch are lines like others.
	wantDiffAlways(t, "-- a\n", "++ a\n", "@@ -1 +1 @@\n--- a\n+++ a\n")
	wantDiff(t, "@@ -1 +1 @@\n-a\n", "@@ -1 +1 @@\n"+bare, 1, "@@ -1,2 +1,2 @@\n @@ -1 +1 @@\n--a\n+"+bare)
}

func TestDiffOfTextsThatAreTheSame(t *testing.T) {
	for _, text := range []string{"", "\n", "a", "a\n", "a\nb", "\n\n\n", numbered("", 1, 40), strings.Repeat("\n", maxText), strings.Repeat("a", maxText)} {
		wantDiffAlways(t, text, text, "")
	}
}

func TestDiffOfTheEmptyText(t *testing.T) {
	wantDiffAlways(t, "", "\n", "@@ -0,0 +1 @@\n+\n")
	wantDiffAlways(t, "\n", "", "@@ -1 +0,0 @@\n-\n")
	wantDiffAlways(t, "", "a", "@@ -0,0 +1 @@\n+a\n"+bare)
	wantDiffAlways(t, "a", "", "@@ -1 +0,0 @@\n-a\n"+bare)
	wantDiffAlways(t, "", "a\nb\n", "@@ -0,0 +1,2 @@\n+a\n+b\n")
	wantDiffAlways(t, "a\nb\n", "", "@@ -1,2 +0,0 @@\n-a\n-b\n")
	wantDiffAlways(t, "", "a\nb", "@@ -0,0 +1,2 @@\n+a\n+b\n"+bare)
	wantDiffAlways(t, "a\nb", "", "@@ -1,2 +0,0 @@\n-a\n-b\n"+bare)
}

func TestDiffOfBareLines(t *testing.T) {
	wantDiffAlways(t, "a", "a\n", "@@ -1 +1 @@\n-a\n"+bare+"+a\n")
	wantDiffAlways(t, "a\n", "a", "@@ -1 +1 @@\n-a\n+a\n"+bare)
	wantDiffAlways(t, "a", "b", "@@ -1 +1 @@\n-a\n"+bare+"+b\n"+bare)
	wantDiffAlways(t, "a", "b\n", "@@ -1 +1 @@\n-a\n"+bare+"+b\n")
	wantDiffAlways(t, "a", "a\nb", "@@ -1 +1,2 @@\n-a\n"+bare+"+a\n+b\n"+bare)
	wantDiffAlways(t, "a\nb", "a", "@@ -1,2 +1 @@\n-a\n-b\n"+bare+"+a\n"+bare)
	wantDiff(t, "a\n", "a\nb", 0, "@@ -1,0 +2 @@\n+b\n"+bare)
	wantDiff(t, "a\nb", "a\n", 0, "@@ -2 +1,0 @@\n-b\n"+bare)
	wantDiff(t, "a\nb", "a\n", 1, "@@ -1,2 +1 @@\n a\n-b\n"+bare)
	// One that stays in both is written as such, if it stands in a hunk.
	wantDiff(t, "a\nc\nb", "x\nc\nb", 0, "@@ -1 +1 @@\n-a\n+x\n")
	wantDiff(t, "a\nc\nb", "x\nc\nb", 1, "@@ -1,2 +1,2 @@\n-a\n+x\n c\n")
	wantDiff(t, "a\nc\nb", "x\nc\nb", 2, "@@ -1,3 +1,3 @@\n-a\n+x\n c\n b\n"+bare)
	wantDiff(t, "b", "a\nb", 0, "@@ -0,0 +1 @@\n+a\n")
	wantDiff(t, "b", "a\nb", 1, "@@ -1 +1,2 @@\n+a\n b\n"+bare)
}

func TestDiffWithEachContext(t *testing.T) {
	old := numbered("", 1, 13)
	lastOnes := strings.TrimSuffix(numbered("", 8, 13), "\n")
	for context := range maxContext + 1 {
		first := 7 - context
		ahead, behind := numbered(" ", first, 6), numbered(" ", 8, 7+context)
		many := 2*context + 1
		wantDiff(t, old, numbered("", 1, 6)+"x\n"+numbered("", 8, 13), context,
			head(first, many, first, many)+ahead+"-7\n+x\n"+behind)
		wantDiff(t, old, numbered("", 1, 6)+numbered("", 8, 13), context,
			head(first, many, first, many-1)+ahead+"-7\n"+behind)
		wantDiff(t, numbered("", 1, 6)+lastOnes, numbered("", 1, 6)+"7\n"+lastOnes, context,
			head(first, many-1, first, many)+ahead+"+7\n"+behind)
	}
}

func TestDiffAtTheBeginning(t *testing.T) {
	old := numbered("", 1, 9)
	for context := range maxContext + 1 {
		behind := numbered(" ", 2, 1+context)
		wantDiff(t, old, "x\n"+numbered("", 2, 9), context, head(1, context+1, 1, context+1)+"-1\n+x\n"+behind)
		wantDiff(t, old, numbered("", 2, 9), context, head(1, context+1, 1, context)+"-1\n"+behind)
		wantDiff(t, numbered("", 2, 9), old, context, head(1, context, 1, context+1)+"+1\n"+behind)
		// A context that is longer than what stands ahead takes just that.
		most := min(context, 2)
		wantDiff(t, old, "1\n2\nx\n"+numbered("", 4, 9), context,
			head(3-most, most+1+context, 3-most, most+1+context)+numbered(" ", 3-most, 2)+"-3\n+x\n"+numbered(" ", 4, 3+context))
	}
}

func TestDiffAtTheEnd(t *testing.T) {
	old := numbered("", 1, 9)
	for context := range maxContext + 1 {
		first := 9 - context
		ahead := numbered(" ", first, 8)
		wantDiff(t, old, numbered("", 1, 8)+"x\n", context, head(first, context+1, first, context+1)+ahead+"-9\n+x\n")
		wantDiff(t, old, numbered("", 1, 8)+"x", context, head(first, context+1, first, context+1)+ahead+"-9\n+x\n"+bare)
		wantDiff(t, old, numbered("", 1, 8), context, head(first, context+1, first, context)+ahead+"-9\n")
		wantDiff(t, numbered("", 1, 8), old, context, head(first, context, first, context+1)+ahead+"+9\n")
		most := min(context, 2)
		wantDiff(t, old, numbered("", 1, 6)+"x\n8\n9\n", context,
			head(7-context, most+1+context, 7-context, most+1+context)+numbered(" ", 7-context, 6)+"-7\n+x\n"+numbered(" ", 8, 7+most))
	}
}

// changedEnds is lines from 1 on of which the first and the last one change.
func changedEnds(last int) (string, string) {
	between := numbered("", 2, last-1)
	return "1\n" + between + strconv.Itoa(last) + "\n", "x\n" + between + "y\n"
}

func TestDiffOfChangesNearToEachOther(t *testing.T) {
	for context := range maxContext + 1 {
		// With one line more than twice the context between them it is near to none.
		last := 2*context + 3
		a, b := changedEnds(last)
		wantDiff(t, a, b, context, head(1, context+1, 1, context+1)+"-1\n+x\n"+numbered(" ", 2, 1+context)+
			head(last-context, context+1, last-context, context+1)+numbered(" ", last-context, last-1)+"-"+strconv.Itoa(last)+"\n+y\n")
		if context == 0 {
			continue
		}
		a, b = changedEnds(last - 1)
		wantDiff(t, a, b, context, head(1, last-1, 1, last-1)+"-1\n+x\n"+numbered(" ", 2, last-2)+"-"+strconv.Itoa(last-1)+"\n+y\n")
	}
	wantDiffAlways(t, "1\n2\n", "x\ny\n", "@@ -1,2 +1,2 @@\n-1\n-2\n+x\n+y\n")
	wantDiff(t, "1\n2\n", "2\n3\n", 0, "@@ -1 +0,0 @@\n-1\n@@ -2,0 +2 @@\n+3\n")
	wantDiff(t, "1\n2\n", "2\n3\n", 1, "@@ -1,2 +1,2 @@\n-1\n 2\n+3\n")
	wantDiff(t, "1\n2\n3\n4\n5\n", "x\n2\ny\n4\nz\n", 0, "@@ -1 +1 @@\n-1\n+x\n@@ -3 +3 @@\n-3\n+y\n@@ -5 +5 @@\n-5\n+z\n")
	wantDiff(t, "1\n2\n3\n4\n5\n", "x\n2\ny\n4\nz\n", 1, "@@ -1,5 +1,5 @@\n-1\n+x\n 2\n-3\n+y\n 4\n-5\n+z\n")
}

func TestDiffCountsLinesOfBothTexts(t *testing.T) {
	old := numbered("", 1, 9)
	wantDiff(t, old, "x\ny\nz\n"+numbered("", 1, 8)+"w\n", 0, "@@ -0,0 +1,3 @@\n+x\n+y\n+z\n@@ -9 +12 @@\n-9\n+w\n")
	wantDiff(t, old, numbered("", 4, 8)+"w\n", 1, "@@ -1,4 +1 @@\n-1\n-2\n-3\n 4\n@@ -8,2 +5,2 @@\n 8\n-9\n+w\n")
	wantDiff(t, old, numbered("", 1, 2)+numbered("", 5, 7)+"w\n"+numbered("", 8, 9), 0, "@@ -3,2 +2,0 @@\n-3\n-4\n@@ -7,0 +6 @@\n+w\n")
}

func TestDiffPutsWhatGoesFirst(t *testing.T) {
	wantDiff(t, "a\n1\n2\n3\nb\n", "a\nx\ny\nb\n", 0, "@@ -2,3 +2,2 @@\n-1\n-2\n-3\n+x\n+y\n")
	wantDiff(t, "a\n1\n2\n3\nb\n", "a\nx\ny\nb\n", 1, "@@ -1,5 +1,4 @@\n a\n-1\n-2\n-3\n+x\n+y\n b\n")
	wantDiffAlways(t, "1\n2\n", "x\ny\nz", "@@ -1,2 +1,3 @@\n-1\n-2\n+x\n+y\n+z\n"+bare)
	wantDiffAlways(t, "1\n2", "x\ny\nz\n", "@@ -1,2 +1,3 @@\n-1\n-2\n"+bare+"+x\n+y\n+z\n")
}

func TestDiffRefusesAContext(t *testing.T) {
	for _, context := range []int{-1, maxContext + 1, 100, math.MinInt, math.MaxInt, math.MaxInt - maxContext} {
		wantNoDiff(t, "a", "b", context, tailor.ErrArg)
		wantNoDiff(t, "a\n", "a\n", context, tailor.ErrArg)
		wantNoDiff(t, "", "", context, tailor.ErrArg)
		wantNoDiff(t, strings.Repeat("a", maxText), strings.Repeat("b", maxText), context, tailor.ErrArg)
	}
}

func TestDiffUpToTheBound(t *testing.T) {
	whole := strings.Repeat("a", maxText)
	wantDiffAlways(t, whole, "", "@@ -1 +0,0 @@\n-"+whole+"\n"+bare)
	wantDiffAlways(t, "", whole, "@@ -0,0 +1 @@\n+"+whole+"\n"+bare)
	wantDiffAlways(t, whole, whole[1:]+"\n", "@@ -1 +1 @@\n-"+whole+"\n"+bare+"+"+whole[1:]+"\n")
	empty, many := strings.Repeat("\n", maxText), strings.Repeat("a\n", maxText/2)
	wantDiffAlways(t, empty, "", "@@ -1,300 +0,0 @@\n"+strings.Repeat("-\n", maxText))
	wantDiffAlways(t, empty, many, "@@ -1,300 +1,150 @@\n"+strings.Repeat("-\n", maxText)+strings.Repeat("+a\n", maxText/2))
	wantDiff(t, empty[1:], empty[2:]+"b", 0, "@@ -299 +299 @@\n-\n+b\n"+bare)
}

func TestDiffAboveTheBound(t *testing.T) {
	for _, long := range []string{strings.Repeat("a", maxText+1), strings.Repeat("\n", maxText+1), strings.Repeat("a\n", maxText)} {
		// That it is too long is told ahead of a wrong context.
		for _, context := range []int{0, maxContext, -1, maxContext + 1, math.MinInt, math.MaxInt} {
			wantNoDiff(t, long, "", context, tailor.ErrLong)
			wantNoDiff(t, "", long, context, tailor.ErrLong)
			wantNoDiff(t, long, long, context, tailor.ErrLong)
			wantNoDiff(t, long[:maxText], long, context, tailor.ErrLong)
		}
	}
}

func TestDiffOfAllShortTexts(t *testing.T) {
	for _, texts := range [][]string{shortTexts("ab\n", 4), rowsOf([]string{"a\n", "b\n", "\n"}, 4), rowsOf([]string{"a\n", "b\n"}, 6)} {
		for _, a := range texts {
			for i, b := range texts {
				wantLeads(t, a, b, i%2)
			}
		}
	}
}

func TestDiffOfAllPlacesOfTwoChanges(t *testing.T) {
	for first := range 14 {
		for second := range 14 {
			a, b := numbered("", 1, 14), numbered("", 1, 14)
			one, other := strconv.Itoa(first+1)+"\n", strconv.Itoa(second+1)+"\n"
			b = strings.Replace(b, one, "x\n"+one, 1)
			a = strings.Replace(a, other, other+"y\n", 1)
			for context := range maxContext + 1 {
				wantLeads(t, a, b, context)
				wantLeads(t, b, a, context)
				wantLeads(t, a+"e", b, context)
				wantLeads(t, a+"e", b+"e", context)
			}
		}
	}
}

func TestDiffOfLongTexts(t *testing.T) {
	for seed := range uint32(300) {
		letters := []string{"\na", "\n\nab", "\n\n\nabc", "\nab"}[seed%4]
		a := someText(seed, maxText-int(seed%7), letters)
		b := someText(seed+1000, maxText-int(seed%200), letters)
		context := int(seed % (maxContext + 1))
		wantLeads(t, a, b, context)
		wantLeads(t, a, a[:50]+b[:10]+a[60:200], context)
		wantLeads(t, a, a[:20]+a[25:100]+"x\n"+a[100:], context)
	}
}
