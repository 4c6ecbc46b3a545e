package disk

import "barque/api"

// From and to which byte names have theirs.
const (
	firstByte = '!'
	lastByte  = '~'
)

// file is what lasts of a file, and what reads see; Spoil alone can make them differ where nothing waits.
type file struct{ lasts, seen []byte }

// piece is what waits until it lasts: a text that lies in one sector of a file.
type piece struct {
	name string
	at   int
	text string
}

// isName tells whether a file may have a name.
func isName(s string) bool {
	if s == "" || len(s) > api.MaxDiskName {
		return false
	}
	for i := range len(s) {
		if s[i] < firstByte || s[i] > lastByte {
			return false
		}
	}
	return true
}

// sectors is how many a file takes.
func (f *file) sectors() int { return begun(max(len(f.lasts), len(f.seen))) }

// begun is how many sectors so many bytes have, with the one that is begun.
func begun(bytes int) int { return (bytes + api.Sector - 1) / api.Sector }

// put is b with a text laid over it at a place; bytes 0 fill a gap ahead of that. The empty text has no byte that reaches the place, so there is no gap to fill.
func put(b []byte, at int, s string) []byte {
	if s == "" {
		return b
	}
	if lack := at + len(s) - len(b); lack > 0 {
		b = append(b, make([]byte, lack)...)
	}
	copy(b[at:], s)
	return b
}
