package tailor_test

import (
	"strings"
	"testing"

	"tailor/tailor"
)

func wantReverse(t *testing.T, patch string, want string) {
	t.Helper()
	if got, err, at := tailor.Reverse(patch); got != want || err != tailor.OK || at != 0 {
		t.Errorf("P8: Reverse(%q) = %q, %d, %d, want %q, 0, 0", patch, got, err, at, want)
	}
}

// wantTurned is for patches in which what goes stands first already.
func wantTurned(t *testing.T, one string, other string) {
	t.Helper()
	wantReverse(t, one, other)
	wantReverse(t, other, one)
}

func TestReverseTurnsHunksRound(t *testing.T) {
	wantTurned(t, "", "")
	wantTurned(t, "@@ -0,0 +1 @@\n+a\n", "@@ -1 +0,0 @@\n-a\n")
	wantTurned(t, "@@ -2 +2 @@\n-b\n+x\n", "@@ -2 +2 @@\n-x\n+b\n")
	wantTurned(t, "@@ -3,2 +3 @@\n-b\n-c\n+x\n", "@@ -3 +3,2 @@\n-x\n+b\n+c\n")
	wantTurned(t, "@@ -4,0 +5,3 @@\n+x\n+y\n+z\n", "@@ -5,3 +4,0 @@\n-x\n-y\n-z\n")
	wantTurned(t, "@@ -1,3 +1,2 @@\n a\n-b\n c\n", "@@ -1,2 +1,3 @@\n a\n+b\n c\n")
	wantTurned(t, "@@ -9999,2 +9999 @@\n-b\n a\n", "@@ -9999 +9999,2 @@\n+b\n a\n")
	wantTurned(t, "@@ -1 +0,0 @@\n-a\n@@ -3 +2 @@\n-c\n+x\n", "@@ -0,0 +1 @@\n+a\n@@ -2 +3 @@\n-x\n+c\n")
	wantTurned(t, "@@ -1 +1 @@\n--- x\n+++ x\n", "@@ -1 +1 @@\n-++ x\n+-- x\n")
	wantTurned(t, "@@ -1 +1 @@\n-\x00\xff\r\n+\n", "@@ -1 +1 @@\n-\n+\x00\xff\r\n")
}

func TestReversePutsWhatGoesFirst(t *testing.T) {
	wantReverse(t, "@@ -2 +2 @@\n+x\n-b\n", "@@ -2 +2 @@\n-x\n+b\n")
	wantReverse(t, "@@ -1,3 +1,3 @@\n-a\n+x\n-b\n+y\n-c\n+z\n", "@@ -1,3 +1,3 @@\n-x\n-y\n-z\n+a\n+b\n+c\n")
	wantReverse(t, "@@ -1,2 +1,2 @@\n+x\n+y\n-a\n-b\n", "@@ -1,2 +1,2 @@\n-x\n-y\n+a\n+b\n")
	// Lines that stay part those that are not side by side.
	wantReverse(t, "@@ -1,3 +1,3 @@\n-a\n b\n-c\n+x\n+y\n", "@@ -1,3 +1,3 @@\n+a\n b\n-x\n-y\n+c\n")
	wantReverse(t, "@@ -1,3 +1,4 @@\n+w\n-a\n b\n+x\n-c\n+y\n", "@@ -1,4 +1,3 @@\n-w\n+a\n b\n-x\n-y\n+c\n")
	// So do heads.
	wantReverse(t, "@@ -1 +0,0 @@\n-a\n@@ -1,0 +1 @@\n+x\n", "@@ -0,0 +1 @@\n+a\n@@ -1 +1,0 @@\n-x\n")
}

func TestReverseOfBareLines(t *testing.T) {
	wantTurned(t, "@@ -1 +1 @@\n-a\n"+bare+"+a\n", "@@ -1 +1 @@\n-a\n+a\n"+bare)
	wantTurned(t, "@@ -1 +1 @@\n-a\n"+bare+"+b\n"+bare, "@@ -1 +1 @@\n-b\n"+bare+"+a\n"+bare)
	wantTurned(t, "@@ -1,2 +1 @@\n-a\n b\n"+bare, "@@ -1 +1,2 @@\n+a\n b\n"+bare)
	wantTurned(t, "@@ -1 +0,0 @@\n-a\n"+bare, "@@ -0,0 +1 @@\n+a\n"+bare)
	wantReverse(t, "@@ -1 +1 @@\n+b\n"+bare+"-a\n", "@@ -1 +1 @@\n-b\n"+bare+"+a\n")
	wantTurned(t, "@@ -1 +1 @@\n-a\n+x\n@@ -2 +2 @@\n-b\n+y\n"+bare, "@@ -1 +1 @@\n-x\n+a\n@@ -2 +2 @@\n-y\n"+bare+"+b\n")
}

// A patch has no text of its own to fit, so what comes may be above that bound.
func TestReverseKnowsNoBoundOfTexts(t *testing.T) {
	many := strings.Repeat("a\n", maxText)
	lines := strings.ReplaceAll(many, "a", "+a")
	wantTurned(t, "@@ -0,0 +1,300 @@\n"+lines, "@@ -1,300 +0,0 @@\n"+strings.ReplaceAll(lines, "+", "-"))
}
