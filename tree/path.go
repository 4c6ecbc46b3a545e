// Package tree is layer 9: trees of files, manifests of them, what lies between two, and patterns for paths (see shared/doc/09-tree.md).
package tree

import (
	"cmp"
	"strings"

	"barque/api"
)

const (
	slash = "/"

	// From and to which sign names have theirs.
	firstSign = '!'
	lastSign  = '~'
)

// Path tells whether a path may be: names, parted by slashes.
func Path(s string) api.Errno {
	if len(s) > api.MaxPath {
		return api.ErrLong
	}
	for name := range strings.SplitSeq(s, slash) {
		if !isName(name) {
			return api.ErrPath
		}
	}
	return api.OK
}

// isName tells whether a name may be, of a text without a slash.
func isName(s string) bool {
	if s == "" || len(s) > api.MaxName || s == "." || s == ".." {
		return false
	}
	// Bytes above 127 make signs, or the one for what is none: all of them are above the last.
	for _, c := range s {
		if c < firstSign || c > lastSign {
			return false
		}
	}
	return true
}

// Order tells how two paths stand: name by name.
func Order(a, b string) int {
	for i := range min(len(a), len(b)) {
		if a[i] != b[i] {
			return cmp.Compare(rank(a[i]), rank(b[i]))
		}
	}
	return cmp.Compare(len(a), len(b))
}

// rank is how a byte stands: where a name ends ahead of all bytes that it may go on with.
func rank(c byte) int {
	if c == slash[0] {
		return -1
	}
	return int(c)
}

// Within tells whether a path lies in another one.
func Within(s, in string) bool {
	rest, begins := strings.CutPrefix(s, in)
	return begins && strings.HasPrefix(rest, slash)
}
