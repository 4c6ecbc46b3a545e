package chunk

import (
	"strings"

	"barque/api"
)

// place is where one part comes; an empty part is told from none by there.
type place struct {
	text  string
	there bool
}

// Box is where parts come together.
type Box struct {
	places []place
	left   int
	bytes  int
}

// New is a box for so many parts.
func New(n int) (*Box, api.Errno) {
	if n < 1 || n > api.MaxParts {
		return nil, api.ErrArg
	}
	return &Box{places: make([]place, n), left: n}, api.OK
}

// Put puts a part in; one that is there already must be the same.
func (b *Box) Put(p api.Part) api.Errno {
	n := b.Of()
	if n == 0 || p.Of != n {
		return api.ErrArg
	}
	if p.At < 0 || p.At >= n {
		return api.ErrRange
	}
	at := &b.places[p.At]
	if at.there {
		if at.text != p.Text {
			return api.ErrSum
		}
		return api.OK
	}
	if len(p.Text) > api.MaxSource-b.bytes {
		return api.ErrLong
	}
	*at = place{strings.Clone(p.Text), true}
	b.left--
	b.bytes += len(p.Text)
	return api.OK
}

// Of is how many parts there are in all; a box that New did not make has none.
func (b *Box) Of() int {
	if b == nil {
		return 0
	}
	return len(b.places)
}

// Left is how many parts lack.
func (b *Box) Left() int {
	if b == nil {
		return 0
	}
	return b.left
}

// Missing are the first parts that lack, at most so many.
func (b *Box) Missing(most int) []int {
	var lack []int
	for at := range b.Of() {
		if len(lack) >= most {
			break
		}
		if !b.places[at].there {
			lack = append(lack, at)
		}
	}
	return lack
}

// Text is all of it.
func (b *Box) Text() (string, api.Errno) {
	if b.Of() == 0 {
		return "", api.ErrArg
	}
	if b.left > 0 {
		return "", api.ErrShort
	}
	var all strings.Builder
	all.Grow(b.bytes)
	for _, at := range b.places {
		all.WriteString(at.text)
	}
	return all.String(), api.OK
}

// Clear takes all out.
func (b *Box) Clear() {
	if b == nil {
		return
	}
	clear(b.places)
	b.left, b.bytes = len(b.places), 0
}
