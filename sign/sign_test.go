package sign_test

import (
	"crypto/sha256"
	"encoding/binary"
	"math"
	"math/rand"
	"slices"
	"strings"
	"testing"
	"unsafe"

	"barque/api"
	"barque/code"
	"barque/marks"
	"barque/sign"
)

// weak is a text's weak sum as the document tells it.
func weak(s string) int {
	a, b := 0, 0
	for i, c := range []byte(s) {
		a += int(c)
		b += (len(s) - i) * int(c)
	}
	return a%65536 + 65536*(b%65536)
}

// strong is SHA-256 by the library.
func strong(s string) string {
	m := sha256.Sum256([]byte(s))
	return string(m[:])
}

// numbered is an ideal book's mark of a number.
func numbered(n int) string {
	return string(binary.LittleEndian.AppendUint64(nil, uint64(n))) + strings.Repeat("\x00", 24)
}

// cut are a text's blocks.
func cut(s string, block int) (l []string) {
	for at := 0; at < len(s); at += block {
		l = append(l, s[at:min(at+block, len(s))])
	}
	return l
}

// some is n bytes, of which many are alike.
func some(chance *rand.Rand, n int) string {
	b := make([]byte, n)
	for i := range b {
		b[i] = byte(chance.Intn(256) >> (chance.Intn(3) * 4))
	}
	return string(b)
}

// few is a text of n blocks of some three kinds, and a piece of one.
func few(chance *rand.Rand, n, block int) string {
	kinds := []string{some(chance, block), strings.Repeat("a", block), some(chance, block)}
	s := ""
	for range n {
		s += kinds[chance.Intn(len(kinds))]
	}
	return s + kinds[0][:chance.Intn(block)]
}

// zero tells whether a signature is the zero one.
func zero(g api.Sig) bool {
	return g.Block == 0 && g.Size == 0 && len(g.Weak) == 0 && len(g.Strong) == 0
}

// same tells whether two signatures are alike.
func same(g, h api.Sig) bool {
	return g.Block == h.Block && g.Size == h.Size && slices.Equal(g.Weak, h.Weak) && slices.Equal(g.Strong, h.Strong)
}

// alone is a signature in memory of its own.
func alone(g api.Sig) api.Sig {
	g.Weak, g.Strong = slices.Clone(g.Weak), slices.Clone(g.Strong)
	return g
}

// signed is the signature of a text, which must have one.
func signed(t *testing.T, b *marks.Book, s string, block int) api.Sig {
	t.Helper()
	g, e := sign.Sign(b, s, block)
	if e != api.OK {
		t.Fatalf("%d bytes, blocks of %d: error %d", len(s), block, e)
	}
	return g
}

// nums are numbers' bytes, one behind the other.
func nums(l ...int) (s string) {
	for _, n := range l {
		one, e := code.Num(n)
		if e != api.OK {
			panic(e)
		}
		s += one
	}
	return s
}

// noBlocks are sizes that no blocks have.
func noBlocks() []int {
	return []int{0, 1, -1, -16, math.MinInt, api.MinBlock - 1, api.MaxBlock + 1, 2 * api.MaxBlock, 1 << 32, 1<<32 + 16, math.MaxInt}
}

// wrong are signatures that may not be, each for one cause, and the cause.
func wrong(t *testing.T) map[string]api.Sig {
	t.Helper()
	right := signed(t, marks.Real(), strings.Repeat("0123456789", 4), 16)
	m := map[string]api.Sig{
		"nothing":      {},
		"a size alone": {Size: 1, Weak: []int{1}, Strong: []string{numbered(1)}},
	}
	but := func(cause string, turn func(g *api.Sig)) {
		g := alone(right)
		turn(&g)
		m[cause] = g
	}
	for name, n := range map[string]int{"0": 0, "-16": -16, "15": 15, "1025": 1025, "greatest": math.MaxInt, "least": math.MinInt} {
		but("block "+name, func(g *api.Sig) { g.Block = n })
		but("block "+name+", empty", func(g *api.Sig) { *g = api.Sig{Block: n} })
	}
	for name, n := range map[string]int{"-1": -1, "least": math.MinInt, "greatest": math.MaxInt, "32, two blocks": 32, "49, four": 49, "0": 0} {
		but("size "+name, func(g *api.Sig) { g.Size = n })
	}
	but("too much", func(g *api.Sig) {
		g.Size = api.MaxSource + 1
		g.Block = 1024
		g.Weak = make([]int, 513)
		g.Strong = slices.Repeat([]string{numbered(1)}, 513)
	})
	but("a negative size, empty", func(g *api.Sig) { *g = api.Sig{Block: 16, Size: -1} })
	but("a negative size of less than a block, empty", func(g *api.Sig) { *g = api.Sig{Block: 1024, Size: -1023} })
	but("a sum less", func(g *api.Sig) { g.Weak = g.Weak[:2] })
	but("a sum more", func(g *api.Sig) { g.Weak = append(g.Weak, 0) })
	but("no sums", func(g *api.Sig) { g.Weak = nil })
	but("a mark less", func(g *api.Sig) { g.Strong = g.Strong[:2] })
	but("a mark more", func(g *api.Sig) { g.Strong = append(g.Strong, numbered(1)) })
	but("no marks", func(g *api.Sig) { g.Strong = nil })
	but("a block less", func(g *api.Sig) { g.Weak, g.Strong = g.Weak[:2], g.Strong[:2] })
	but("a block more", func(g *api.Sig) { g.Weak, g.Strong = append(g.Weak, 0), append(g.Strong, numbered(1)) })
	for i := range 3 {
		place := string(rune('0' + i))
		for name, n := range map[string]int{"-1": -1, "2^32": 1 << 32, "greatest": math.MaxInt, "least": math.MinInt} {
			but("sum "+place+" "+name, func(g *api.Sig) { g.Weak[i] = n })
		}
		for name, s := range map[string]string{"empty": "", "short": numbered(1)[:31], "long": numbered(1) + "\x00"} {
			but("mark "+place+" "+name, func(g *api.Sig) { g.Strong[i] = s })
		}
	}
	return m
}

// 5.1

func TestBlock(t *testing.T) {
	for _, c := range []struct{ n, want int }{
		{0, 16}, {1, 16}, {255, 16}, {256, 16}, {257, 32}, {1024, 32}, {1025, 64}, {4096, 64}, {4097, 128}, {16384, 128}, {16385, 256}, {65536, 256}, {65537, 512},
		{1 << 18, 512}, {1<<18 + 1, 1024}, {api.MaxSource, 1024}, {1 << 20, 1024}, {1<<20 + 1, 1024}, {1000000000, 1024}, {math.MaxInt, 1024},
		{-1, 16}, {-257, 16}, {-1 << 40, 16}, {math.MinInt, 16},
	} {
		if n := sign.Block(c.n); n != c.want {
			t.Errorf("of %d: %d, want %d", c.n, n, c.want)
		}
	}
	for n := range 1<<20 + 100 {
		want := 1024
		for size := 512; size >= 16; size /= 2 {
			if size*size >= n {
				want = size
			}
		}
		if sign.Block(n) != want {
			t.Fatalf("of %d: %d, want %d", n, sign.Block(n), want)
		}
	}
}

func TestSign(t *testing.T) {
	chance := rand.New(rand.NewSource(1))
	for _, block := range []int{api.MinBlock, 17, 100, 256, 1000, api.MaxBlock - 1, api.MaxBlock} {
		for _, n := range []int{0, 1, 15, 16, 17, 40, block - 1, block, block + 1, 2*block - 1, 2 * block, 7*block + 3, api.MaxSource - 1, api.MaxSource} {
			s := some(chance, n)
			l := cut(s, block)
			g := signed(t, marks.Real(), s, block)
			if g.Block != block || g.Size != n || len(g.Weak) != len(l) || len(g.Strong) != len(l) {
				t.Fatalf("%d bytes, blocks of %d: %d, %d, %d sums, %d marks, want %d", n, block, g.Block, g.Size, len(g.Weak), len(g.Strong), len(l))
			}
			for i, one := range l {
				if g.Weak[i] != weak(one) || g.Strong[i] != strong(one) {
					t.Fatalf("%d bytes, blocks of %d, block %d: %08x, %x, want %08x, %x", n, block, i, g.Weak[i], g.Strong[i], weak(one), strong(one))
				}
			}
		}
	}
	if g := signed(t, marks.Real(), strings.Repeat("x", 40), 16); len(g.Weak) != 3 || len(g.Strong) != 3 {
		t.Errorf("of 40 bytes in blocks of 16: %d sums, %d marks", len(g.Weak), len(g.Strong))
	}
}

// The book marks the blocks from the left: an ideal one numbers them so, behind what it has numbered.
func TestSignFromTheLeft(t *testing.T) {
	b := marks.Ideal()
	x, y, z := strings.Repeat("x", 16), strings.Repeat("y", 16), "z"
	b.Mark(y)
	for range 2 {
		g := signed(t, b, x+y+x+x[1:]+"x"+y+z, 16)
		want := []string{numbered(2), numbered(1), numbered(2), numbered(2), numbered(1), numbered(3)}
		if !slices.Equal(g.Strong, want) {
			t.Errorf("%x, want %x", g.Strong, want)
		}
	}
	if m := b.Mark("next"); m != numbered(4) {
		t.Errorf("what came behind: %x", m)
	}
}

func TestSignRefused(t *testing.T) {
	b := marks.Ideal()
	long := strings.Repeat("a", api.MaxSource+1)
	for _, block := range noBlocks() {
		// The size of the blocks is looked at ahead of the text.
		for _, s := range []string{"", "a", strings.Repeat("a", 5000), long} {
			if g, e := sign.Sign(b, s, block); e != api.ErrArg || !zero(g) {
				t.Errorf("%d bytes, blocks of %d: error %d, %d sums", len(s), block, e, len(g.Weak))
			}
		}
	}
	for _, block := range []int{api.MinBlock, 100, api.MaxBlock} {
		for _, s := range []string{long, long + long} {
			if g, e := sign.Sign(b, s, block); e != api.ErrLong || !zero(g) {
				t.Errorf("%d bytes, blocks of %d: error %d, %d sums", len(s), block, e, len(g.Weak))
			}
		}
	}
	// What is refused has changed nothing.
	if m := b.Mark("x"); m != numbered(1) {
		t.Errorf("a text was marked: %x", m)
	}
}

// A book that is not ready marks by the empty text, which is no mark: the signature may not be.
func TestSignByNoBook(t *testing.T) {
	for i, b := range []*marks.Book{nil, {}} {
		g, e := sign.Sign(b, strings.Repeat("a", 20), 16)
		if e != api.OK || len(g.Weak) != 2 || !slices.Equal(g.Strong, []string{"", ""}) || sign.Right(g) {
			t.Errorf("book %d: %#v, error %d, may be %v", i, g, e, sign.Right(g))
		}
		if g, e := sign.Sign(b, "", 16); e != api.OK || !sign.Right(g) {
			t.Errorf("book %d, the empty text: %#v, error %d", i, g, e)
		}
	}
}

// 5.2

func TestRight(t *testing.T) {
	chance := rand.New(rand.NewSource(2))
	for _, block := range []int{api.MinBlock, 17, 333, api.MaxBlock} {
		for _, n := range []int{0, 1, block - 1, block, block + 1, 5 * block, api.MaxSource - 1, api.MaxSource} {
			if g := signed(t, marks.Ideal(), some(chance, n), block); !sign.Right(g) {
				t.Errorf("%d bytes, blocks of %d: may not be", n, block)
			}
		}
	}
	// No text needs to have such a signature.
	for _, g := range []api.Sig{
		{Block: 16}, {Block: 1024, Weak: []int{}, Strong: []string{}},
		{Block: 16, Size: 1, Weak: []int{math.MaxUint32}, Strong: []string{strings.Repeat("\xff", 32)}},
		{Block: 1024, Size: 1025, Weak: []int{0, math.MaxUint32}, Strong: []string{numbered(0), numbered(0)}},
	} {
		if !sign.Right(g) {
			t.Errorf("%#v may not be", g)
		}
	}
	for cause, g := range wrong(t) {
		if sign.Right(g) {
			t.Errorf("%s: may be", cause)
		}
	}
}

func TestBytes(t *testing.T) {
	m := strings.Repeat("m", 32)
	for _, c := range []struct {
		g    api.Sig
		want string
	}{
		{api.Sig{Block: 16}, "\x10\x00"},
		{api.Sig{Block: 128}, "\x80\x01\x00"},
		{api.Sig{Block: 1024, Size: 300, Weak: []int{300}, Strong: []string{m}}, "\x80\x08\xac\x02\xac\x02" + m},
		{api.Sig{Block: 16, Size: 17, Weak: []int{math.MaxUint32, 0}, Strong: []string{m, numbered(1)}}, "\x10\x11\xff\xff\xff\xff\x0f\x00" + m + numbered(1)},
	} {
		if s, e := sign.Bytes(c.g); s != c.want || e != api.OK {
			t.Errorf("%#v: %x, error %d, want %x", c.g, s, e, c.want)
		}
	}
	chance := rand.New(rand.NewSource(3))
	for range 200 {
		g := signed(t, marks.Real(), some(chance, chance.Intn(3000)), 16+chance.Intn(100))
		want := nums(append([]int{g.Block, g.Size}, g.Weak...)...) + strings.Join(g.Strong, "")
		if s, e := sign.Bytes(g); s != want || e != api.OK {
			t.Errorf("%d bytes, blocks of %d: %x, error %d, want %x", g.Size, g.Block, s, e, want)
		}
	}
	for cause, g := range wrong(t) {
		if s, e := sign.Bytes(g); s != "" || e != api.ErrArg {
			t.Errorf("%s: %x, error %d", cause, s, e)
		}
	}
}

func TestOf(t *testing.T) {
	m, n := strings.Repeat("m", 32), strings.Repeat("\xff", 32)
	for _, c := range []struct {
		s    string
		want api.Sig
	}{
		{"\x10\x00", api.Sig{Block: 16}},
		{nums(1024, 0), api.Sig{Block: 1024}},
		{nums(17, 1, 0) + m, api.Sig{Block: 17, Size: 1, Weak: []int{0}, Strong: []string{m}}},
		{nums(16, 17, math.MaxUint32, 1) + m + n, api.Sig{Block: 16, Size: 17, Weak: []int{math.MaxUint32, 1}, Strong: []string{m, n}}},
	} {
		if g, e := sign.Of(c.s); !same(g, c.want) || e != api.OK {
			t.Errorf("%x: %#v, error %d, want %#v", c.s, g, e, c.want)
		}
	}
}

func TestOfRefused(t *testing.T) {
	m := strings.Repeat("m", 32)
	noNum := "\x80\x00"                        // not the shortest form
	long := strings.Repeat("\xff", 8) + "\x40" // the ninth byte above 63
	for _, c := range []struct {
		s    string
		want api.Errno
	}{
		{"", api.ErrShort}, {"\x80", api.ErrShort}, {"\x10", api.ErrShort}, {"\x10\x80", api.ErrShort},
		{noNum, api.ErrForm}, {long, api.ErrForm}, {"\x10" + noNum, api.ErrForm}, {"\x10" + long, api.ErrForm},
		// Block and Size are asked once both are read.
		{nums(15), api.ErrShort}, {nums(0), api.ErrShort}, {nums(api.MaxNum), api.ErrShort}, {nums(15) + "\x80", api.ErrShort},
		{nums(15, 0), api.ErrForm}, {nums(0, 0), api.ErrForm}, {nums(1025, 0), api.ErrForm}, {nums(api.MaxNum, 0), api.ErrForm},
		{nums(16, api.MaxSource+1), api.ErrForm}, {nums(1024, api.MaxSource+1), api.ErrForm}, {nums(16, api.MaxNum), api.ErrForm}, {nums(0, api.MaxNum), api.ErrForm},
		// What is wrong with them goes ahead of what follows.
		{nums(15, 1, 1<<32) + m, api.ErrForm}, {nums(15, 0) + "x", api.ErrForm}, {nums(16, api.MaxSource+1) + noNum, api.ErrForm},
		{nums(16, api.MaxSource), api.ErrShort}, {nums(16, 1), api.ErrShort}, {nums(16, 17, 5), api.ErrShort}, {nums(16, 17, 5) + "\x80", api.ErrShort},
		{nums(16, 1, 1<<32) + m, api.ErrLong}, {nums(16, 1, api.MaxNum) + m, api.ErrLong}, {nums(16, 17, 1<<32), api.ErrLong}, {nums(16, 17, 5, 1<<32) + m, api.ErrLong},
		{nums(16, 17, 5) + noNum + m + m, api.ErrForm}, {nums(16, 17, 1<<32) + noNum, api.ErrLong}, {nums(16, 17) + noNum + nums(1<<32), api.ErrForm},
		{nums(16, 17) + long, api.ErrForm},
		{nums(16, 1, 5), api.ErrShort}, {nums(16, 1, 5) + m[1:], api.ErrShort}, {nums(16, 17, 5, 5) + m, api.ErrShort}, {nums(16, 17, 5, 5) + m + m[1:], api.ErrShort},
		{nums(16, 0, 0), api.ErrLong}, {nums(16, 1, 5) + m + "x", api.ErrLong}, {nums(16, 17, 5, 5) + m + m + m, api.ErrLong}, {nums(16, 16, 5, 5) + m + m, api.ErrLong},
	} {
		if g, e := sign.Of(c.s); e != c.want || !zero(g) {
			t.Errorf("%x: %#v, error %d, want %d", c.s, g, e, c.want)
		}
	}
}

// Bytes that are cut, or have one more, are no signature's; of a byte that is bent they are another's, or none's.
func TestOfBent(t *testing.T) {
	chance := rand.New(rand.NewSource(4))
	g := signed(t, marks.Real(), some(chance, 50), 16)
	s, _ := sign.Bytes(g)
	for n := range len(s) {
		if h, e := sign.Of(s[:n]); e != api.ErrShort || !zero(h) {
			t.Errorf("%d of %d bytes: error %d", n, len(s), e)
		}
	}
	for _, more := range []string{"\x00", "x", s} {
		if h, e := sign.Of(s + more); e != api.ErrLong || !zero(h) {
			t.Errorf("%d bytes more: error %d", len(more), e)
		}
	}
	for i := range len(s) * 8 {
		b := []byte(s)
		b[i/8] ^= 1 << (i % 8)
		h, e := sign.Of(string(b))
		if e != api.OK {
			if !zero(h) {
				t.Errorf("bit %d: error %d beside a signature", i, e)
			}
			continue
		}
		if again, e := sign.Bytes(h); !sign.Right(h) || same(g, h) || again != string(b) || e != api.OK {
			t.Errorf("bit %d: %#v", i, h)
		}
	}
}

// What is answered is new memory, and what is handed in stays as it is (R3).
func TestMemory(t *testing.T) {
	s, _ := sign.Bytes(signed(t, marks.Real(), strings.Repeat("0123456789", 5), 16))
	memory := []byte(s)
	g, _ := sign.Of(unsafe.String(&memory[0], len(memory)))
	want, _ := sign.Of(s)
	clear(memory)
	if !same(g, want) {
		t.Error("a signature shares memory with the bytes that it was read from")
	}
	g.Weak[0], g.Strong[0] = 7, "x"
	if h, _ := sign.Of(s); !same(h, want) {
		t.Error("an answer changed a later one")
	}
	// Room behind the ends of the lists.
	g = alone(want)
	g.Weak, g.Strong = append(g.Weak, 5)[:len(g.Weak)], append(g.Strong, "behind")[:len(g.Strong)]
	sign.Right(g)
	sign.Bytes(g)
	table, _ := sign.NewTable(g)
	table.Find(g.Weak[0])
	table.Match(marks.Real(), g.Weak[0], strings.Repeat("x", 16), 0)
	if n := len(g.Weak); !same(g, want) || g.Weak[:n+1][n] != 5 || g.Strong[:n+1][n] != "behind" {
		t.Errorf("%#v, behind the ends %d and %q", g, g.Weak[:n+1][n], g.Strong[:n+1][n])
	}
}
