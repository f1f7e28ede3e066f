package tailor

import (
	"strings"
	"testing"
	"unsafe"
)

// liesIn tells if a string is a piece of another one's memory.
func liesIn(piece string, whole string) bool {
	if piece == "" {
		return false
	}
	start := uintptr(unsafe.Pointer(unsafe.StringData(whole)))
	at := uintptr(unsafe.Pointer(unsafe.StringData(piece)))
	return at >= start && at < start+uintptr(len(whole))
}

// A tree that kept a piece of a patch would keep all of it.
func TestATreeKeepsNothingThatIsHandedIn(t *testing.T) {
	name, text := strings.Clone("name"), strings.Clone("a text\n")
	again := strings.Clone("name")
	patch := strings.Clone("--- name\n+++ name\n@@ -1 +1 @@\n-a text\n+b\n--- /dev/null\n+++ other\n@@ -0,0 +1 @@\n+a text\n")
	tree := New()
	tree.Put(name, text)
	wantOwn(t, tree, name, text)
	tree.Put(again, text)
	wantOwn(t, tree, again, text)
	if err, at := tree.Patch(patch); err != OK {
		t.Fatalf("Patch tells %d, %d", err, at)
	}
	wantOwn(t, tree, again, text, patch)
}

func wantOwn(t *testing.T, tree *Tree, handed ...string) {
	t.Helper()
	for name, f := range tree.files {
		for _, whole := range handed {
			if liesIn(name, whole) || liesIn(f.text, whole) {
				t.Errorf("the tree keeps memory of %q for its file %q", whole, name)
			}
		}
	}
}
