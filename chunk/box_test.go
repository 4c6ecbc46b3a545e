package chunk_test

import (
	"math"
	"math/rand"
	"slices"
	"strings"
	"testing"
	"unsafe"

	"barque/api"
	"barque/chunk"
)

// box is a box for n parts, 1 to 4096.
func box(t *testing.T, n int) *chunk.Box {
	t.Helper()
	b, e := chunk.New(n)
	if b == nil || e != api.OK {
		t.Fatalf("New(%d): %v, %v", n, b, e)
	}
	return b
}

// plain is a box as the document tells it: the parts that are there by their places.
type plain struct {
	n     int
	parts map[int]string
}

func (b *plain) put(p api.Part) api.Errno {
	there, ok := b.parts[p.At]
	all := len(p.Text)
	for _, s := range b.parts {
		all += len(s)
	}
	switch {
	case p.Of != b.n:
		return api.ErrArg
	case p.At < 0 || p.At >= b.n:
		return api.ErrRange
	case ok && there != p.Text:
		return api.ErrSum
	case ok:
		return api.OK
	case all > api.MaxSource:
		return api.ErrLong
	}
	b.parts[p.At] = p.Text
	return api.OK
}

// missing are all places that lack, and all that is there, one behind the other.
func (b *plain) missing() (lack []int, s string) {
	for i := range b.n {
		x, ok := b.parts[i]
		if !ok {
			lack = append(lack, i)
		}
		s += x
	}
	return lack, s
}

// same tells whether a box answers all as a plain one does.
func same(t *testing.T, b *chunk.Box, p *plain) {
	t.Helper()
	lack, s := p.missing()
	if b.Of() != p.n || b.Left() != len(lack) {
		t.Fatalf("Of %d, Left %d, want %d, %d", b.Of(), b.Left(), p.n, len(lack))
	}
	for _, most := range []int{math.MinInt, -1, 0, 1, 2, len(lack) - 1, len(lack), len(lack) + 1, p.n, api.MaxParts, math.MaxInt} {
		want := lack[:min(max(most, 0), len(lack))]
		if l := b.Missing(most); !slices.Equal(l, want) {
			t.Fatalf("Missing(%d): %v, want %v", most, l, want)
		}
	}
	e := api.OK
	if len(lack) > 0 {
		s, e = "", api.ErrShort
	}
	if x, f := b.Text(); x != s || f != e {
		t.Fatalf("Text: %d bytes, %v, want %d, %v", len(x), f, len(s), e)
	}
}

// 13.2

func TestNew(t *testing.T) {
	for _, n := range []int{1, 2, 3, 64, api.MaxParts - 1, api.MaxParts} {
		same(t, box(t, n), &plain{n: n})
	}
	for _, n := range []int{0, -1, math.MinInt, api.MaxParts + 1, 1 << 31, 1 << 32, math.MaxInt} {
		if b, e := chunk.New(n); b != nil || e != api.ErrArg {
			t.Errorf("New(%d): %v, %v", n, b, e)
		}
	}
}

func TestPut(t *testing.T) {
	b := box(t, 3)
	for i, c := range []struct {
		p    api.Part
		e    api.Errno
		left int
	}{
		{api.Part{At: 0, Of: 2, Text: "x"}, api.ErrArg, 3},
		{api.Part{At: 0, Of: 4, Text: "x"}, api.ErrArg, 3},
		{api.Part{At: 0, Of: 0, Text: "x"}, api.ErrArg, 3},
		{api.Part{At: 0, Of: -3, Text: "x"}, api.ErrArg, 3},
		{api.Part{At: 0, Of: math.MaxInt, Text: "x"}, api.ErrArg, 3},
		{api.Part{At: 0, Of: math.MinInt, Text: "x"}, api.ErrArg, 3},
		{api.Part{At: 3, Of: 4, Text: "x"}, api.ErrArg, 3},
		{api.Part{At: -1, Of: 4, Text: "x"}, api.ErrArg, 3},
		{api.Part{At: 3, Of: 3, Text: "x"}, api.ErrRange, 3},
		{api.Part{At: 4, Of: 3, Text: "x"}, api.ErrRange, 3},
		{api.Part{At: -1, Of: 3, Text: "x"}, api.ErrRange, 3},
		{api.Part{At: math.MaxInt, Of: 3, Text: "x"}, api.ErrRange, 3},
		{api.Part{At: math.MinInt, Of: 3, Text: "x"}, api.ErrRange, 3},
		{api.Part{At: 1, Of: 3, Text: "bc"}, api.OK, 2},
		{api.Part{At: 1, Of: 3, Text: "bc"}, api.OK, 2},
		{api.Part{At: 1, Of: 3, Text: "bd"}, api.ErrSum, 2},
		{api.Part{At: 1, Of: 3, Text: "b"}, api.ErrSum, 2},
		{api.Part{At: 1, Of: 3, Text: "bcd"}, api.ErrSum, 2},
		{api.Part{At: 1, Of: 3, Text: ""}, api.ErrSum, 2},
		{api.Part{At: 1, Of: 2, Text: "bd"}, api.ErrArg, 2},
		{api.Part{At: 2, Of: 3, Text: ""}, api.OK, 1},
		{api.Part{At: 2, Of: 3, Text: ""}, api.OK, 1},
		{api.Part{At: 2, Of: 3, Text: "x"}, api.ErrSum, 1},
		{api.Part{At: 0, Of: 3, Text: "a"}, api.OK, 0},
		{api.Part{At: 0, Of: 3, Text: "a"}, api.OK, 0},
		{api.Part{At: 0, Of: 3, Text: "b"}, api.ErrSum, 0},
		{api.Part{At: 0, Of: 2, Text: "b"}, api.ErrArg, 0},
		{api.Part{At: 3, Of: 3, Text: "b"}, api.ErrRange, 0},
	} {
		if e := b.Put(c.p); e != c.e || b.Left() != c.left || b.Of() != 3 {
			t.Errorf("%d: Put(%v): %v, left %d, want %v, %d", i, c.p, e, b.Left(), c.e, c.left)
		}
	}
	if s, e := b.Text(); s != "abc" || e != api.OK {
		t.Errorf("Text: %q, %v", s, e)
	}
}

func TestPutTooLong(t *testing.T) {
	part := func(at, bytes int, of string) api.Part {
		return api.Part{At: at, Of: 4, Text: strings.Repeat(of, bytes)}
	}
	b := box(t, 4)
	for i, c := range []struct {
		p api.Part
		e api.Errno
	}{
		{part(0, api.MaxSource+1, "a"), api.ErrLong},
		{part(3, 2*api.MaxSource, "a"), api.ErrLong},
		{part(2, api.MaxSource-9, "a"), api.OK},
		{part(0, 10, "b"), api.ErrLong},
		{part(0, api.MaxSource, "b"), api.ErrLong},
		{part(2, api.MaxSource-9, "a"), api.OK},
		{part(2, api.MaxSource-8, "a"), api.ErrSum},
		{part(2, api.MaxSource+1, "a"), api.ErrSum},
		{part(0, 8, "b"), api.OK},
		{part(1, 2, "c"), api.ErrLong},
		{part(1, 1, "c"), api.OK},
		{part(3, 1, "d"), api.ErrLong},
		{part(4, api.MaxSource+1, "d"), api.ErrRange},
		{api.Part{At: 3, Of: 5, Text: strings.Repeat("d", api.MaxSource)}, api.ErrArg},
		{part(0, 8, "b"), api.OK},
		{part(3, 0, "d"), api.OK},
		{part(3, 1, "d"), api.ErrSum},
	} {
		if e := b.Put(c.p); e != c.e {
			t.Errorf("%d: Put of part %d, of %d bytes: %v, want %v", i, c.p.At, len(c.p.Text), e, c.e)
		}
	}
	if s, e := b.Text(); e != api.OK || s != "bbbbbbbbc"+strings.Repeat("a", api.MaxSource-9) {
		t.Errorf("Text: %d bytes, %v", len(s), e)
	}
	one := box(t, 1)
	long := api.Part{Of: 1, Text: strings.Repeat("x", api.MaxSource+1)}
	if e := one.Put(long); e != api.ErrLong || one.Left() != 1 {
		t.Errorf("a part that is too long alone: %v", e)
	}
	long.Text = long.Text[1:]
	if e := one.Put(long); e != api.OK || one.Left() != 0 {
		t.Errorf("a part that is just as long as may be: %v", e)
	}
}

func TestBoxAsThePlainOne(t *testing.T) {
	chance := rand.New(rand.NewSource(132))
	for range 300 {
		n := 1 + chance.Intn(9)
		b, p := box(t, n), &plain{n: n, parts: map[int]string{}}
		for range 60 {
			switch {
			case chance.Intn(25) == 0:
				b.Clear()
				clear(p.parts)
			default:
				x := api.Part{At: chance.Intn(n+2) - 1, Of: n, Text: text(chance, chance.Intn(3))}
				if chance.Intn(9) == 0 {
					x.Of += chance.Intn(3) - 1
				}
				if chance.Intn(9) == 0 {
					x.Text = strings.Repeat("z", api.MaxSource/2-1+chance.Intn(3))
				}
				if old, ok := p.parts[x.At]; ok && chance.Intn(2) == 0 {
					x.Text = old
				}
				if e, want := b.Put(x), p.put(x); e != want {
					t.Fatalf("Put of part %d of %d, of %d bytes: %v, want %v", x.At, x.Of, len(x.Text), e, want)
				}
			}
			same(t, b, p)
		}
	}
}

func TestMissing(t *testing.T) {
	b := box(t, 6)
	for _, at := range []int{1, 4, 0} {
		b.Put(api.Part{At: at, Of: 6, Text: "x"})
	}
	for most, want := range [][]int{{}, {2}, {2, 3}, {2, 3, 5}, {2, 3, 5}} {
		if l := b.Missing(most); !slices.Equal(l, want) {
			t.Errorf("Missing(%d): %v, want %v", most, l, want)
		}
	}
	l, m := b.Missing(3), b.Missing(3)
	l[0] = 77
	if m[0] != 2 || b.Missing(1)[0] != 2 {
		t.Error("two answers share a list")
	}
}

func TestClear(t *testing.T) {
	b := box(t, 2)
	b.Clear()
	same(t, b, &plain{n: 2})
	for range 3 {
		b.Put(api.Part{At: 0, Of: 2, Text: strings.Repeat("a", api.MaxSource)})
		if e := b.Put(api.Part{At: 1, Of: 2, Text: "b"}); e != api.ErrLong {
			t.Errorf("Put ahead of Clear: %v", e)
		}
		b.Clear()
		same(t, b, &plain{n: 2})
		// Neither what was there nor how many bytes it had is known any more.
		if e := b.Put(api.Part{At: 0, Of: 2, Text: "c"}); e != api.OK {
			t.Errorf("Put of another text behind Clear: %v", e)
		}
		if e := b.Put(api.Part{At: 1, Of: 2, Text: strings.Repeat("d", api.MaxSource-1)}); e != api.OK {
			t.Errorf("Put of a long text behind Clear: %v", e)
		}
		if s, e := b.Text(); len(s) != api.MaxSource || e != api.OK {
			t.Errorf("Text behind Clear: %d bytes, %v", len(s), e)
		}
		b.Clear()
	}
}

func TestNilBox(t *testing.T) {
	for name, b := range map[string]*chunk.Box{"nil": nil, "that New did not make": {}} {
		for _, p := range []api.Part{{}, {Of: 1}, {Of: 1, Text: "x"}, {At: -1}, {At: 1, Of: 1}, {Text: strings.Repeat("x", api.MaxSource+1)}} {
			if e := b.Put(p); e != api.ErrArg {
				t.Errorf("a box %s: Put of part %d of %d: %v", name, p.At, p.Of, e)
			}
		}
		b.Clear()
		if s, e := b.Text(); s != "" || e != api.ErrArg {
			t.Errorf("a box %s: Text: %q, %v", name, s, e)
		}
		if b.Of() != 0 || b.Left() != 0 || b.Missing(5) != nil || b.Missing(math.MaxInt) != nil || b.Missing(-1) != nil {
			t.Errorf("a box %s has something", name)
		}
	}
}

func TestBoxSharesNothing(t *testing.T) {
	b, one := box(t, 2), box(t, 1)
	bytes := []byte("abcd")
	handed := unsafe.String(&bytes[0], len(bytes))
	b.Put(api.Part{At: 0, Of: 2, Text: handed})
	b.Put(api.Part{At: 1, Of: 2, Text: handed[1:]})
	one.Put(api.Part{Of: 1, Text: handed})
	copy(bytes, "wxyz")
	for _, x := range []*chunk.Box{b, one} {
		s, _ := x.Text()
		r, _ := x.Text()
		if s != "abcdbcd"[:len(s)] {
			t.Errorf("what was handed in is kept: %q", s)
		}
		if memory(s, r) {
			t.Error("two answers share memory")
		}
		copy(unsafe.Slice(unsafe.StringData(s), len(s)), "0000000")
		if q, _ := x.Text(); q != r {
			t.Errorf("an answer is the box's own memory: %q", q)
		}
	}
}

// 13.3

func TestTogether(t *testing.T) {
	chance := rand.New(rand.NewSource(133))
	for range 400 {
		s, size := text(chance, chance.Intn(200)), 1+chance.Intn(40)
		l, _ := chunk.Cut(s, size)
		b := box(t, len(l))
		// Each part stands there once, some once more.
		order := chance.Perm(len(l))
		for range chance.Intn(2 * len(l)) {
			order = slices.Insert(order, chance.Intn(len(order)+1), chance.Intn(len(l)))
		}
		for i, at := range order {
			if e := b.Put(l[at]); e != api.OK {
				t.Fatalf("Put of part %d of %d: %v", at, len(l), e)
			}
			x, e := b.Text()
			if lack := len(l) - distinct(order[:i+1]); b.Left() != lack || (e == api.OK) != (lack == 0) || e == api.OK && x != s {
				t.Fatalf("behind part %d of %d: Left %d, Text %q, %v", at, len(l), b.Left(), x, e)
			}
		}
		if b.Left() != 0 || b.Missing(1) != nil {
			t.Fatalf("behind all parts, %d lack", b.Left())
		}
	}
}

// distinct is how many unlike numbers stand in a list.
func distinct(l []int) int {
	return len(slices.Compact(slices.Sorted(slices.Values(l))))
}

func TestTogetherGreatest(t *testing.T) {
	chance := rand.New(rand.NewSource(1333))
	s := text(chance, api.MaxSource)
	for _, size := range []int{128, 129, api.PartBytes, api.MaxSource - 1, api.MaxSource, math.MaxInt} {
		l, e := chunk.Cut(s, size)
		if e != api.OK {
			t.Fatal(size, e)
		}
		b := box(t, len(l))
		for _, at := range chance.Perm(len(l)) {
			if e := b.Put(l[at]); e != api.OK {
				t.Fatalf("by %d: Put of part %d of %d: %v", size, at, len(l), e)
			}
		}
		if x, e := b.Text(); x != s || e != api.OK {
			t.Errorf("by %d: %d bytes, %v", size, len(x), e)
		}
	}
}
