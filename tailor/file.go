package tailor

// maxFiles is the most files that a tree may have.
const maxFiles = 4

// maxName is the most letters that a file's name may have.
const maxName = 8

// file is what stands under a name. Under a name that has none it is the zero
// value: a file that is not there is compared and changed as an empty one.
type file struct {
	there bool
	text  string
}

func isName(name string) bool {
	if name == "" || len(name) > maxName {
		return false
	}
	for i := range len(name) {
		if name[i] < 'a' || name[i] > 'z' {
			return false
		}
	}
	return true
}
