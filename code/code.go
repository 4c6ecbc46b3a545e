// Package code is layer 1: numbers, texts and lists as bytes, and a reader of these that never goes too far (see shared/doc/01-code.md).
package code

import (
	"barque/api"
)

const (
	numBytes   = 9       // a number has at most so many
	lastMost   = 63      // the ninth byte is at most that: 62 bits in all
	signedMost = 1 << 61 // numbers with a sign are from -signedMost on and below signedMost
)

// Num is a number as bytes: seven bits each, the lowest first, the last one below 128.
func Num(n int) (string, api.Errno) { return made(addNum(nil, n)) }

// Signed is a number with a sign: 0, -1, 1, -2, .. as 0, 1, 2, 3, ..
func Signed(n int) (string, api.Errno) {
	// Asked ahead of the doubling, which would wrap.
	if n < -signedMost || n >= signedMost {
		return "", api.ErrRange
	}
	if n < 0 {
		return Num(-2*n - 1)
	}
	return Num(2 * n)
}

// Text is a text behind its length.
func Text(s string) (string, api.Errno) { return made(addText(nil, s)) }

// Nums are numbers behind their count.
func Nums(l []int) (string, api.Errno) { return made(list(l, addNum)) }

// Texts are texts behind their count.
func Texts(l []string) (string, api.Errno) { return made(list(l, addText)) }

// made is what was made, as a text; with an error nothing was.
func made(b []byte, e api.Errno) (string, api.Errno) { return string(b), e }

// addNum lays a number's bytes behind others.
func addNum(b []byte, n int) ([]byte, api.Errno) {
	if n < 0 || n > api.MaxNum {
		return nil, api.ErrRange
	}
	for range numBytes {
		if n < 128 {
			break
		}
		b = append(b, byte(n&127|128))
		n >>= 7
	}
	return append(b, byte(n)), api.OK
}

// addText lays a text's bytes behind others.
func addText(b []byte, s string) ([]byte, api.Errno) {
	if len(s) > api.MaxText {
		return nil, api.ErrLong
	}
	b, e := addNum(b, len(s))
	return append(b, s...), e
}

// list is parts' bytes behind their count.
func list[T any](l []T, add func([]byte, T) ([]byte, api.Errno)) ([]byte, api.Errno) {
	if len(l) > api.MaxText {
		return nil, api.ErrLong
	}
	b, e := addNum(nil, len(l))
	for _, x := range l {
		if b, e = add(b, x); e != api.OK {
			return nil, e
		}
	}
	return b, e
}

// Reader reads bytes; behind its first error it reads nothing more.
type Reader struct {
	rest string // what is not read yet; empty behind an error
	err  api.Errno
}

// Read is a reader of bytes.
func Read(s string) *Reader { return &Reader{rest: s} }

// Err is the first error.
func (r *Reader) Err() api.Errno {
	if r == nil {
		return api.ErrArg
	}
	return r.err
}

// fail keeps the first error.
func (r *Reader) fail(e api.Errno) {
	if r.Err() == api.OK {
		r.rest, r.err = "", e
	}
}

// Left is how many bytes are left.
func (r *Reader) Left() int {
	if r == nil {
		return 0
	}
	return len(r.rest)
}

// Byte is the next byte.
func (r *Reader) Byte() int {
	s := r.Raw(1)
	if s == "" {
		return 0
	}
	return int(s[0])
}

// Num is the next number, in its shortest form.
func (r *Reader) Num() int {
	n := 0
	for i := range numBytes {
		c := r.Byte()
		// A last byte 0 says nothing: the number would have a shorter form. (Where the byte lacked, that stays the first error.)
		if c == 0 && i > 0 || c > lastMost && i == numBytes-1 {
			r.fail(api.ErrForm)
		}
		if r.Err() != api.OK {
			return 0
		}
		n |= (c & 127) << (7 * i)
		if c < 128 {
			break
		}
	}
	return n
}

// Signed is the next number with a sign.
func (r *Reader) Signed() int {
	n := r.Num()
	if n%2 == 1 {
		return -(n / 2) - 1
	}
	return n / 2
}

// Raw are the next n bytes.
func (r *Reader) Raw(n int) string {
	if n < 0 {
		r.fail(api.ErrArg)
	} else if n > r.Left() {
		r.fail(api.ErrShort)
	}
	if r.Err() != api.OK {
		return ""
	}
	s := r.rest[:n]
	r.rest = r.rest[n:]
	return s
}

// Count is the next number, which is at most so much.
func (r *Reader) Count(most int) int {
	n := r.Num()
	if n > most {
		r.fail(api.ErrLong)
	}
	if r.Err() != api.OK {
		return 0
	}
	return n
}

// Text is the next text, of at most so many bytes.
func (r *Reader) Text(most int) string { return r.Raw(r.Count(most)) }

// Nums are the next numbers, at most so many.
func (r *Reader) Nums(most int) []int { return parts(r, most, r.Num) }

// Texts are the next texts, at most so many, each of at most so many bytes.
func (r *Reader) Texts(most, each int) []string {
	return parts(r, most, func() string { return r.Text(each) })
}

// parts are the next parts, at most so many.
func parts[T any](r *Reader, most int, next func() T) []T {
	var l []T
	// No room is laid ahead, and the first error ends it: what is read may say any count.
	for range r.Count(most) {
		l = append(l, next())
		if r.Err() != api.OK {
			return nil
		}
	}
	return l
}

// End is the first error, if there was none whether bytes are left.
func (r *Reader) End() api.Errno {
	if r.Left() > 0 {
		r.fail(api.ErrLong)
	}
	return r.Err()
}
