package chunk_test

import (
	"math"
	"math/rand"
	"slices"
	"strings"
	"testing"
	"unsafe"

	"barque/api"
	"barque/chunk"
)

// text is any text of so many bytes.
func text(chance *rand.Rand, n int) string {
	b := make([]byte, n)
	for i := range b {
		b[i] = byte('a' + chance.Intn(26))
	}
	return string(b)
}

// plainCut is Cut of a text and a size that may be, as the document tells it: byte by byte from the left.
func plainCut(s string, size int) (l []api.Part) {
	part := ""
	for i := range len(s) {
		part += s[i : i+1]
		if len(part) == size {
			l = append(l, api.Part{At: len(l), Text: part})
			part = ""
		}
	}
	if part != "" || s == "" {
		l = append(l, api.Part{At: len(l), Text: part})
	}
	for i := range l {
		l[i].Of = len(l)
	}
	return l
}

// memory is whether two texts, neither of which is empty, share memory.
func memory(a, b string) bool {
	x, y := uintptr(unsafe.Pointer(unsafe.StringData(a))), uintptr(unsafe.Pointer(unsafe.StringData(b)))
	return x < y+uintptr(len(b)) && y < x+uintptr(len(a))
}

// 13.1

func TestCutExamples(t *testing.T) {
	l, e := chunk.Cut("abcde", 2)
	if want := []api.Part{{At: 0, Of: 3, Text: "ab"}, {At: 1, Of: 3, Text: "cd"}, {At: 2, Of: 3, Text: "e"}}; e != api.OK || !slices.Equal(l, want) {
		t.Errorf("Cut of abcde by 2: %v, %v", l, e)
	}
	l, e = chunk.Cut("", 9)
	if want := []api.Part{{At: 0, Of: 1, Text: ""}}; e != api.OK || !slices.Equal(l, want) {
		t.Errorf("Cut of the empty text by 9: %v, %v", l, e)
	}
}

func TestCut(t *testing.T) {
	chance := rand.New(rand.NewSource(13))
	for n := range 70 {
		s := text(chance, n)
		for _, size := range []int{1, 2, 3, 7, 8, 9, 16, 34, 35, 68, 69, 70, 71, 1024, 1 << 31, 1 << 32, math.MaxInt - 1, math.MaxInt} {
			l, e := chunk.Cut(s, size)
			if want := plainCut(s, size); e != api.OK || !slices.Equal(l, want) {
				t.Errorf("Cut of %d bytes by %d: %v, %v, want %v", n, size, l, e, want)
			}
		}
	}
}

func TestCutBytesAsTheyAre(t *testing.T) {
	l, e := chunk.Cut("\x00\xff\xc3\xa4\n", 3)
	if want := []api.Part{{At: 0, Of: 2, Text: "\x00\xff\xc3"}, {At: 1, Of: 2, Text: "\xa4\n"}}; e != api.OK || !slices.Equal(l, want) {
		t.Errorf("%v, %v", l, e)
	}
}

func TestCutEdges(t *testing.T) {
	for _, c := range []struct {
		bytes, size, parts, last int
		e                        api.Errno
	}{
		{0, 1, 1, 0, api.OK},
		{api.MaxSource, api.MaxSource, 1, api.MaxSource, api.OK},
		{api.MaxSource, api.MaxSource - 1, 2, 1, api.OK},
		{api.MaxSource, api.MaxSource + 1, 1, api.MaxSource, api.OK},
		{api.MaxSource, math.MaxInt, 1, api.MaxSource, api.OK},
		{api.MaxSource, api.PartBytes, 512, api.PartBytes, api.OK},
		{api.MaxSource, 128, api.MaxParts, 128, api.OK},
		{api.MaxSource - 1, 128, api.MaxParts, 127, api.OK},
		{api.MaxSource, 127, 0, 0, api.ErrFull},
		{127 * api.MaxParts, 127, api.MaxParts, 127, api.OK},
		{127*api.MaxParts + 1, 127, 0, 0, api.ErrFull},
		{api.MaxParts, 1, api.MaxParts, 1, api.OK},
		{api.MaxParts + 1, 1, 0, 0, api.ErrFull},
		{api.MaxParts + 1, 2, api.MaxParts/2 + 1, 1, api.OK},
		{2 * api.MaxParts, 2, api.MaxParts, 2, api.OK},
		{2*api.MaxParts + 1, 2, 0, 0, api.ErrFull},
		{api.MaxSource, 1, 0, 0, api.ErrFull},
		{api.MaxSource + 1, 1, 0, 0, api.ErrLong},
		{api.MaxSource + 1, api.MaxSource, 0, 0, api.ErrLong},
		{api.MaxSource + 1, math.MaxInt, 0, 0, api.ErrLong},
		{0, 0, 0, 0, api.ErrArg},
		{5, -1, 0, 0, api.ErrArg},
		{5, math.MinInt, 0, 0, api.ErrArg},
		{api.MaxSource, 0, 0, 0, api.ErrArg},
		{api.MaxSource + 1, 0, 0, 0, api.ErrArg},
		{api.MaxSource + 1, math.MinInt, 0, 0, api.ErrArg},
	} {
		s := strings.Repeat("a", c.bytes)
		l, e := chunk.Cut(s, c.size)
		if e != c.e || len(l) != c.parts || e != api.OK && l != nil {
			t.Errorf("Cut of %d bytes by %d: %d parts, %v, want %d, %v", c.bytes, c.size, len(l), e, c.parts, c.e)
			continue
		}
		if c.parts > 0 && (len(l[c.parts-1].Text) != c.last || l[c.parts-1].At != c.parts-1 || l[c.parts-1].Of != c.parts) {
			t.Errorf("Cut of %d bytes by %d: the last part %d of %d, of %d bytes", c.bytes, c.size, l[c.parts-1].At, l[c.parts-1].Of, len(l[c.parts-1].Text))
		}
	}
}

func TestCutSharesNothing(t *testing.T) {
	b := []byte("abcdefgh")
	s := unsafe.String(&b[0], len(b))
	for _, size := range []int{1, 3, 8, 9} {
		l, _ := chunk.Cut(s, size)
		for i, p := range l {
			if memory(p.Text, s) {
				t.Errorf("by %d, part %d lies in the text", size, i)
			}
			for _, q := range l[:i] {
				if memory(p.Text, q.Text) {
					t.Errorf("by %d, part %d lies in another", size, i)
				}
			}
		}
		m, _ := chunk.Cut(s, size)
		m[0].Text = "other"
		if l[0].Text == "other" {
			t.Errorf("by %d, two answers share a list", size)
		}
	}
	if string(b) != "abcdefgh" {
		t.Error("the text is changed")
	}
}
