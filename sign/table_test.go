package sign_test

import (
	"math"
	"math/rand"
	"slices"
	"strings"
	"testing"
	"unsafe"

	"barque/api"
	"barque/marks"
	"barque/sign"
)

// table is the table of a signature, which must have one.
func table(t *testing.T, g api.Sig) *sign.Table {
	t.Helper()
	u, e := sign.NewTable(g)
	if u == nil || e != api.OK {
		t.Fatalf("%d bytes, blocks of %d: %#v, error %d", g.Size, g.Block, u, e)
	}
	return u
}

// find is Find as the document tells it.
func find(g api.Sig, weak int) (l []int) {
	for i := range g.Size / g.Block {
		if g.Weak[i] == weak {
			l = append(l, i)
		}
	}
	return l
}

// match is Match as the document tells it.
func match(g api.Sig, b *marks.Book, weak int, s string, wanted int) int {
	first := -1
	for _, i := range find(g, weak) {
		if len(s) != g.Block || !b.Is(s, g.Strong[i]) {
			continue
		}
		if i == wanted {
			return i
		}
		if first == -1 {
			first = i
		}
	}
	return first
}

// tail is Tail as the document tells it.
func tail(g api.Sig, b *marks.Book, s string) bool {
	n := g.Size % g.Block
	last := len(g.Weak) - 1
	return n > 0 && len(s) == n && weak(s) == g.Weak[last] && b.Is(s, g.Strong[last])
}

// unlike are texts of 16 bytes of one weak sum.
func unlike() []string {
	const rest = "0123456789abc"
	return []string{"\x01\x04\x01" + rest, "\x02\x02\x02" + rest, "\x00\x06\x00" + rest}
}

// 5.3

func TestNewTable(t *testing.T) {
	for _, block := range []int{api.MinBlock, 17, api.MaxBlock} {
		for _, n := range []int{0, 1, block - 1, block, block + 1, 3*block + 5, api.MaxSource} {
			u := table(t, signed(t, marks.Ideal(), strings.Repeat("x", n), block))
			if u.Size() != n || u.Block() != block {
				t.Errorf("%d bytes, blocks of %d: %d, %d", n, block, u.Size(), u.Block())
			}
		}
	}
	for cause, g := range wrong(t) {
		if u, e := sign.NewTable(g); u != nil || e != api.ErrArg {
			t.Errorf("%s: %#v, error %d", cause, u, e)
		}
	}
}

func TestFind(t *testing.T) {
	l := unlike()
	one := weak(l[0])
	if weak(l[1]) != one || weak(l[2]) != one {
		t.Fatal("their sums are unlike")
	}
	other := strings.Repeat("z", 16)
	s := l[1] + other + l[0] + l[1] + other + l[2] + l[0]
	u := table(t, signed(t, marks.Real(), s+other[:5], 16))
	for _, c := range []struct {
		weak int
		want []int
	}{
		{one, []int{0, 2, 3, 5, 6}}, {weak(other), []int{1, 4}}, {one + 1, nil}, {one - 1, nil}, {0, nil}, {math.MaxUint32, nil},
		{weak(other[:5]), nil}, // the last block is not whole
		{-1, nil}, {one - 1<<32, nil}, {one + 1<<32, nil}, {math.MaxInt, nil}, {math.MinInt, nil},
	} {
		if l := u.Find(c.weak); !slices.Equal(l, c.want) {
			t.Errorf("%08x: %v, want %v", c.weak, l, c.want)
		}
	}
	// What was answered is new memory.
	got := u.Find(one)
	clear(got[:cap(got)])
	if l := u.Find(one); !slices.Equal(l, []int{0, 2, 3, 5, 6}) {
		t.Errorf("an answer changed a later one: %v", l)
	}
}

func TestFindTheEnds(t *testing.T) {
	m := numbered(1)
	for _, n := range []int{0, 1, 1 << 16, 1 << 31, math.MaxUint32} {
		u := table(t, api.Sig{Block: 16, Size: 40, Weak: []int{n, n, n}, Strong: []string{m, m, m}})
		if l := u.Find(n); !slices.Equal(l, []int{0, 1}) {
			t.Errorf("%08x: %v", n, l)
		}
		for _, other := range []int{n - 1, n + 1, -1, math.MaxInt, math.MinInt} {
			if l := u.Find(other); len(l) != 0 {
				t.Errorf("%08x of %08x alone: %v", other, n, l)
			}
		}
	}
}

func TestMatch(t *testing.T) {
	l := unlike()
	one := weak(l[0])
	for _, b := range []*marks.Book{marks.Ideal(), marks.Real()} {
		s := l[1] + strings.Repeat("z", 16) + l[0] + l[1] + l[1] + l[0]
		u := table(t, signed(t, b, s+l[0][:5], 16))
		for _, c := range []struct {
			weak   int
			s      string
			wanted int
			want   int
		}{
			{one, l[1], 0, 0}, {one, l[1], 3, 3}, {one, l[1], 4, 4}, {one, l[0], 2, 2}, {one, l[0], 5, 5},
			// That one has another weak sum, or another mark, or there is no such one: the first.
			{one, l[1], 1, 0}, {one, l[1], 2, 0}, {one, l[0], 0, 2}, {one, l[0], 3, 2}, {one, l[0], 6, 2}, {one, l[0], 7, 2},
			{one, l[0], -1, 2}, {one, l[0], math.MinInt, 2}, {one, l[0], math.MaxInt, 2},
			// Of that weak sum, but of no mark; of a mark, but of no such weak sum.
			{one, l[2], 0, -1}, {one, strings.Repeat("z", 16), 1, -1}, {weak(strings.Repeat("z", 16)), l[0], 2, -1}, {one + 1, l[0], 2, -1},
			{-1, l[0], 2, -1}, {one + 1<<32, l[0], 2, -1}, {math.MaxInt, l[0], 2, -1}, {math.MinInt, l[0], 2, -1},
			// Not as long as a block.
			{one, "", 0, -1}, {one, l[1][:15], 0, -1}, {one, l[1] + "x", 0, -1}, {one, l[1] + l[1], 0, -1},
			// The last block is not whole.
			{weak(l[0][:5]), l[0][:5], 6, -1},
		} {
			if i := u.Match(b, c.weak, c.s, c.wanted); i != c.want {
				t.Errorf("%08x, %q, wanted %d: %d, want %d", c.weak, c.s, c.wanted, i, c.want)
			}
		}
	}
}

// A mark is the book's: another book, or none, tells otherwise.
func TestMatchByAnotherBook(t *testing.T) {
	x, y := strings.Repeat("x", 16), strings.Repeat("y", 16)
	mine, other := marks.Ideal(), marks.Ideal()
	u := table(t, signed(t, mine, x+x[:3], 16))
	for _, b := range []*marks.Book{other, marks.Real(), nil, {}} {
		if u.Match(b, weak(x), x, 0) != -1 || u.Tail(b, x[:3]) {
			t.Error("a text is taken that the book has given another mark, or none")
		}
	}
	// By a book of which the mark is another text's.
	other.Mark(y)
	other.Mark(y[:3])
	if u.Match(other, weak(x), y, 0) != 0 || u.Match(other, weak(x), x, 0) != -1 {
		t.Error("not the mark is asked, but the text")
	}
	if u.Match(mine, weak(x), x, 0) != 0 || !u.Tail(mine, x[:3]) {
		t.Error("its own book does not take it any more")
	}
}

func TestTail(t *testing.T) {
	for _, b := range []*marks.Book{marks.Ideal(), marks.Real()} {
		s := "0123456789abcdef" + "0123456789abcdef" + "01234567"
		u := table(t, signed(t, b, s, 16))
		for _, c := range []struct {
			s    string
			want bool
		}{
			{"01234567", true}, {"", false}, {"0123456", false}, {"012345678", false}, {"01234576", false}, {"12345678", false},
			{"0123456789abcdef", false}, {"89abcdef", false}, {s, false},
		} {
			if u.Tail(b, c.s) != c.want {
				t.Errorf("%q: %v", c.s, !c.want)
			}
		}
		// All blocks are whole: there is no such last one.
		for _, whole := range []string{"", s[:16], s[:32]} {
			u := table(t, signed(t, b, whole, 16))
			for _, one := range []string{"", s[:1], s[:16], whole} {
				if u.Tail(b, one) {
					t.Errorf("%q is the last of %q", one, whole)
				}
			}
		}
		// It alone is there.
		u = table(t, signed(t, b, "x", 1024))
		if !u.Tail(b, "x") || u.Tail(b, "y") || u.Tail(b, "") || u.Tail(b, "xx") {
			t.Error("of one byte alone")
		}
	}
}

// The last block has a weak sum and a mark, and both must be the text's.
func TestTailBySumAndMark(t *testing.T) {
	b := marks.Ideal()
	m := b.Mark("x")
	for _, c := range []struct {
		weak int
		mark string
		want bool
	}{{weak("x"), m, true}, {weak("x") + 1, m, false}, {0, m, false}, {weak("x"), numbered(2), false}, {weak("x"), numbered(0), false}} {
		if u := table(t, api.Sig{Block: 16, Size: 1, Weak: []int{c.weak}, Strong: []string{c.mark}}); u.Tail(b, "x") != c.want {
			t.Errorf("%08x, %x: %v", c.weak, c.mark, !c.want)
		}
	}
}

func TestNoTable(t *testing.T) {
	b := marks.Ideal()
	m := b.Mark("")
	refused, _ := sign.NewTable(api.Sig{})
	for i, u := range []*sign.Table{nil, {}, refused} {
		for _, n := range []int{0, 1, -1, math.MaxInt, math.MinInt} {
			for _, s := range []string{"", "x", m, strings.Repeat("x", 16)} {
				if len(u.Find(n)) != 0 || u.Match(b, n, s, n) != -1 || u.Match(nil, 0, s, n) != -1 || u.Tail(b, s) || u.Tail(nil, s) || u.Size() != 0 || u.Block() != 0 {
					t.Errorf("table %d, %d, %q: it has something", i, n, s)
				}
			}
		}
	}
}

// A text of another length is no block, though a block has its weak sum and its mark.
func TestBlocksHaveTheirLength(t *testing.T) {
	b := marks.Ideal()
	for _, s := range []string{"", "abc", "abcde", strings.Repeat("x", 15), strings.Repeat("x", 16), strings.Repeat("x", 17), strings.Repeat("x", 32)} {
		sums, ms := []int{weak(s), weak(s)}, []string{b.Mark(s), b.Mark(s)}
		u := table(t, api.Sig{Block: 16, Size: 21, Weak: sums, Strong: ms})
		if want := map[bool]int{true: 0, false: -1}[len(s) == 16]; u.Match(b, weak(s), s, 0) != want || u.Match(b, weak(s), s, 1) != want {
			t.Errorf("%q is matched as %d", s, u.Match(b, weak(s), s, 0))
		}
		if u.Tail(b, s) != (len(s) == 5) {
			t.Errorf("%q is the last block of 5 bytes: %v", s, len(s) != 5)
		}
	}
}

// A table goes on as it did, whatever becomes of the memory in which its signature was handed in (R3).
func TestSignaturesAreNotKeptAsTheyAre(t *testing.T) {
	b := marks.Real()
	s := "0123456789abcdef" + "fedcba9876543210" + "0123"
	g := signed(t, b, s, 16)
	memory := []byte(strings.Join(g.Strong, ""))
	for i := range g.Strong {
		g.Strong[i] = unsafe.String(&memory[i*32], 32)
	}
	u := table(t, g)
	clear(memory)
	clear(g.Weak)
	clear(g.Strong)
	for i := range 2 {
		one := s[i*16 : i*16+16]
		if l := u.Find(weak(one)); !slices.Equal(l, []int{i}) || u.Match(b, weak(one), one, 0) != i {
			t.Errorf("block %d: %v", i, l)
		}
	}
	if !u.Tail(b, "0123") || u.Size() != 36 || u.Block() != 16 {
		t.Error("the last block is not what it was")
	}
}

// To ask a table numbers no texts.
func TestTablesMarkNothing(t *testing.T) {
	b := marks.Ideal()
	u := table(t, signed(t, b, strings.Repeat("x", 20), 16))
	for _, s := range []string{"xxxx", "yyyy", strings.Repeat("y", 16), strings.Repeat("x", 16)} {
		u.Match(b, weak(strings.Repeat("x", 16)), s, 0)
		u.Tail(b, s)
	}
	if m := b.Mark("next"); m != numbered(3) {
		t.Errorf("what came behind: %x", m)
	}
}

// Whatever is asked of a table it answers as the document tells it.
func TestTablesOfAny(t *testing.T) {
	chance := rand.New(rand.NewSource(5))
	matched := 0
	for round := range 400 {
		b := marks.Real()
		if round%2 == 0 {
			b = marks.Ideal()
		}
		block := 16 + chance.Intn(20)
		s := few(chance, chance.Intn(12), block)
		g := signed(t, b, s, block)
		if chance.Intn(2) == 0 {
			// Blocks that no text has: unlike marks of one weak sum, and one mark of unlike sums.
			for i := range g.Weak {
				g.Weak[i] = g.Weak[chance.Intn(i+1)]
			}
		}
		u := table(t, alone(g))
		for range 50 {
			one := few(chance, 1, block)
			if l := cut(s, block); len(l) > 0 && chance.Intn(4) > 0 {
				one = l[chance.Intn(len(l))]
			}
			sum, wanted := weak(one), chance.Intn(16)-2
			if len(g.Weak) > 0 && chance.Intn(2) == 0 {
				sum = g.Weak[chance.Intn(len(g.Weak))]
			}
			if l, want := u.Find(sum), find(g, sum); !slices.Equal(l, want) {
				t.Fatalf("round %d: %08x: %v, want %v", round, sum, l, want)
			}
			i, want := u.Match(b, sum, one, wanted), match(g, b, sum, one, wanted)
			if i != want {
				t.Fatalf("round %d: %08x, %q, wanted %d: %d, want %d", round, sum, one, wanted, i, want)
			}
			if i >= 0 {
				matched++
			}
			if u.Tail(b, one) != tail(g, b, one) {
				t.Fatalf("round %d: %q is the last: %v", round, one, u.Tail(b, one))
			}
		}
	}
	if matched < 2000 {
		t.Fatalf("%d matched alone", matched)
	}
}

// 5.4

func TestEachBlockIsFound(t *testing.T) {
	chance := rand.New(rand.NewSource(6))
	for _, b := range []*marks.Book{marks.Ideal(), marks.Real()} {
		for _, block := range []int{api.MinBlock, 17, 200, api.MaxBlock} {
			for _, s := range []string{"", some(chance, 1), some(chance, block), few(chance, 20, block), some(chance, 30*block+7), strings.Repeat("a", 50*block+1)} {
				g := signed(t, b, s, block)
				u := table(t, g)
				for i, one := range cut(s, block) {
					if len(one) < block {
						if !u.Tail(b, one) || slices.Contains(u.Find(weak(one)), i) {
							t.Fatalf("%d bytes, blocks of %d: the last", len(s), block)
						}
						continue
					}
					if !slices.Contains(u.Find(weak(one)), i) || u.Match(b, weak(one), one, i) != i {
						t.Fatalf("%d bytes, blocks of %d: block %d is not found", len(s), block, i)
					}
					if k := u.Match(b, weak(one), one, -1); k < 0 || k > i || s[k*block:(k+1)*block] != one {
						t.Fatalf("%d bytes, blocks of %d: block %d is matched as %d", len(s), block, i, k)
					}
				}
			}
		}
	}
}

func TestOfBytesIsTheSignature(t *testing.T) {
	chance := rand.New(rand.NewSource(7))
	for i := range 400 {
		n := chance.Intn(2000)
		if i == 0 {
			n = api.MaxSource
		}
		g := signed(t, marks.Real(), some(chance, n), 16+chance.Intn(1009))
		for k := range g.Weak {
			if chance.Intn(3) == 0 {
				g.Weak[k] = int(chance.Uint32() >> chance.Intn(32))
			}
		}
		s, e := sign.Bytes(g)
		if h, f := sign.Of(s); !same(g, h) || e != api.OK || f != api.OK {
			t.Fatalf("%d bytes, blocks of %d: %d bytes, blocks of %d, error %d, %d", n, g.Block, h.Size, h.Block, e, f)
		}
	}
}

// Of many blocks, all alike but for one, each is found in no time.
func TestMany(t *testing.T) {
	b := marks.Real()
	const block = 16
	one, other := strings.Repeat("a", block), strings.Repeat("b", block)
	s := strings.Repeat(one, api.MaxSource/block-1) + other
	u := table(t, signed(t, b, s, block))
	last := api.MaxSource/block - 1
	for range 1000 {
		if u.Match(b, weak(one), one, last-1) != last-1 || u.Match(b, weak(one), one, last) != 0 || u.Match(b, weak(one), other, 0) != -1 || u.Match(b, weak(other), other, 0) != last {
			t.Fatal("another one is matched")
		}
	}
	if l := u.Find(weak(one)); len(l) != last || !slices.IsSorted(l) {
		t.Errorf("%d blocks", len(l))
	}
}
