package press

import (
	"barque/api"
	"barque/code"
)

// Loose is the text that was pressed.
func Loose(s string) (string, api.Errno) {
	r := code.Read(s)
	size := r.Count(api.MaxText)
	// No room is laid ahead: what is read may say any length.
	var b []byte
	for len(b) < size {
		var e api.Errno
		if b, e = readStep(r, b, size-len(b)); e != api.OK {
			return "", e
		}
	}
	if e := r.End(); e != api.OK {
		return "", e
	}
	return string(b), api.OK
}

// readStep lays what comes next behind what was made, of which so many bytes lack.
func readStep(r *code.Reader, b []byte, lack int) ([]byte, api.Errno) {
	n := r.Num()
	if n%2 == 1 {
		return readCopy(r, n/2+leastCopy, b, lack)
	}
	return readText(r, n/2, b, lack)
}

// readText lays a text of n bytes there.
func readText(r *code.Reader, n int, b []byte, lack int) ([]byte, api.Errno) {
	// Where there was no number n is 0, which would be the wrong error.
	if e := r.Err(); e != api.OK {
		return nil, e
	}
	if n == 0 || n > lack {
		return nil, api.ErrForm
	}
	return append(b, r.Raw(n)...), r.Err()
}

// readCopy lays a copy of n bytes there.
func readCopy(r *code.Reader, n int, b []byte, lack int) ([]byte, api.Errno) {
	back := r.Num() + 1
	if e := r.Err(); e != api.OK {
		return nil, e
	}
	if back > min(len(b), mostBack) || n > min(mostCopy, lack) {
		return nil, api.ErrForm
	}
	// Byte by byte: a copy may reach into itself.
	for range n {
		b = append(b, b[len(b)-back])
	}
	return b, api.OK
}
