package frame_test

import (
	"encoding/binary"
	"hash/crc32"
	"math"
	"math/rand"
	"slices"
	"strings"
	"testing"
	"time"

	"barque/api"
	"barque/frame"
)

// sum is a text's sum by the library.
func sum(s string) int { return int(crc32.ChecksumIEEE([]byte(s))) }

// byBits is a text's sum just as the document tells it.
func byBits(s string) int {
	r := uint32(math.MaxUint32)
	for _, c := range []byte(s) {
		r ^= uint32(c)
		for range 8 {
			out := r & 1
			if r >>= 1; out == 1 {
				r ^= 0xedb88320
			}
		}
	}
	return int(^r)
}

// four is a number in four bytes.
func four(n int) string { return string(binary.LittleEndian.AppendUint32(nil, uint32(n))) }

// framed is a payload's frame as the document tells it.
func framed(s string) string {
	return "\xb5\x7e" + four(len(s)) + four(sum(four(len(s))+s)) + s
}

// one is frame.One as the document tells it.
func one(s string) (string, int, api.Errno) {
	switch {
	case !strings.HasPrefix("\xb5\x7e", s[:min(len(s), 2)]):
		return "", 0, api.ErrForm
	case len(s) < 6:
		return "", 0, api.ErrShort
	}
	n := int(binary.LittleEndian.Uint32([]byte(s[2:])))
	switch {
	case n > api.MaxFrame:
		return "", 0, api.ErrLong
	case len(s) < 10+n:
		return "", 0, api.ErrShort
	case four(sum(s[2:6]+s[10:10+n])) != s[6:10]:
		return "", 0, api.ErrSum
	}
	return s[10 : 10+n], 10 + n, api.OK
}

// scan is frame.Scan as the document tells it.
func scan(s string) (l []string, at, lost int) {
	for {
		p, n, e := one(s[at:])
		switch e {
		case api.OK:
			l, at = append(l, p), at+n
		case api.ErrShort:
			return l, at, lost
		default:
			at, lost = at+1, lost+1
		}
	}
}

// some is n bytes, of which many are alike.
func some(chance *rand.Rand, n int) string {
	b := make([]byte, n)
	for i := range b {
		b[i] = byte(chance.Intn(256) >> (chance.Intn(3) * 4))
	}
	return string(b)
}

// scanned tells whether Scan tells what is right.
func scanned(t *testing.T, s string, l []string, at, lost int) {
	t.Helper()
	if m, n, o := frame.Scan(s); !slices.Equal(m, l) || n != at || o != lost {
		t.Errorf("%d bytes, %.40x: %d payloads, at %d, %d lost; want %d, %d, %d", len(s), s, len(m), n, o, len(l), at, lost)
	}
}

// 2.1

func TestSum(t *testing.T) {
	for s, want := range map[string]int{
		"": 0, "123456789": 0xcbf43926, "\x00": 0xd202ef8d, "\xff": 0xff000000, "\x00\x00\x00\x00": 0x2144df1c, "\xff\xff\xff\xff": 0xffffffff,
	} {
		if n := frame.Sum(s); n != want {
			t.Errorf("Sum(%x): %08x, want %08x", s, n, want)
		}
	}
	for c := range 256 {
		if s := string([]byte{byte(c)}); frame.Sum(s) != byBits(s) {
			t.Errorf("Sum(%x): %08x, want %08x", s, frame.Sum(s), byBits(s))
		}
	}
	chance := rand.New(rand.NewSource(1))
	for i := range 3000 {
		s := some(chance, i%300)
		if n := frame.Sum(s); n != byBits(s) || n != sum(s) {
			t.Errorf("Sum(%x): %08x, want %08x", s, n, byBits(s))
		}
	}
	if s := some(chance, 1<<20); frame.Sum(s) != sum(s) {
		t.Errorf("a long text: %08x, want %08x", frame.Sum(s), sum(s))
	}
}

func TestAdd(t *testing.T) {
	chance := rand.New(rand.NewSource(2))
	for range 1000 {
		s := some(chance, chance.Intn(200))
		cut := chance.Intn(len(s) + 1)
		if n := frame.Add(frame.Sum(s[:cut]), s[cut:]); n != sum(s) {
			t.Errorf("%x cut at %d: %08x, want %08x", s, cut, n, sum(s))
		}
		any := int(chance.Uint64())
		want := int(crc32.Update(uint32(any), crc32.IEEETable, []byte(s)))
		if n := frame.Add(any, s); n != want || n != frame.Add(any&0xffffffff, s) {
			t.Errorf("Add(%d, %x): %08x, want %08x", any, s, n, want)
		}
	}
	for n, want := range map[int]int{0: 0, 5: 5, -1: 0xffffffff, math.MinInt: 0, math.MaxInt: 0xffffffff, 1 << 32: 0, 1<<32 + 7: 7, -1<<32 + 9: 9} {
		if m := frame.Add(n, ""); m != want {
			t.Errorf("Add(%d, nothing): %08x, want %08x", n, m, want)
		}
	}
}

func TestJoin(t *testing.T) {
	chance := rand.New(rand.NewSource(3))
	for i := range 2000 {
		a, b := some(chance, chance.Intn(100)), some(chance, i%130)
		if n, e := frame.Join(sum(a), sum(b), len(b)); n != sum(a+b) || e != api.OK {
			t.Errorf("Join of %x and %x: %08x, error %d, want %08x", a, b, n, e, sum(a+b))
		}
	}
	for _, n := range []int{api.MaxFrame - 1, api.MaxFrame, api.MaxFrame + 1, 1<<20 - 1, 1 << 20} {
		b := some(chance, n)
		if s, e := frame.Join(sum("ab"), sum(b), n); s != sum("ab"+b) || e != api.OK {
			t.Errorf("Join of %d bytes: %08x, error %d, want %08x", n, s, e, sum("ab"+b))
		}
	}
}

func TestJoinOfNoSum(t *testing.T) {
	chance := rand.New(rand.NewSource(4))
	for i := range 1000 {
		a, b, n := int(chance.Uint32()), int(chance.Uint32()), i%9
		zeros := strings.Repeat("\x00", n)
		want := frame.Add(a, zeros) ^ sum(zeros) ^ b
		if s, e := frame.Join(a, b, n); s != want || e != api.OK {
			t.Errorf("Join(%x, %x, %d): %08x, error %d, want %08x", a, b, n, s, e, want)
		}
	}
	if s, e := frame.Join(math.MaxUint32, 1, 0); s != math.MaxUint32-1 || e != api.OK {
		t.Errorf("of no bytes that have the sum 1: %08x, error %d", s, e)
	}
}

func TestJoinFar(t *testing.T) {
	// The bits of a register come again after 2^32 - 1 steps, so they do after as many bytes.
	const round = math.MaxUint32
	chance := rand.New(rand.NewSource(5))
	for range 100 {
		a, b, n := int(chance.Uint32()), int(chance.Uint32()), chance.Intn(math.MaxInt-round)
		s, e := frame.Join(a, b, n)
		u, f := frame.Join(a, b, n%round)
		v, g := frame.Join(a, b, n+round)
		if s != u || s != v || e != api.OK || f != api.OK || g != api.OK {
			t.Errorf("Join(%x, %x, %d): %08x, errors %d %d %d, want %08x", a, b, n, s, e, f, g, u)
		}
	}
	if s, e := frame.Join(0, 0, math.MaxInt); s != 0 || e != api.OK {
		t.Errorf("of bits 0: %08x, error %d", s, e)
	}
}

func TestJoinRefused(t *testing.T) {
	for _, c := range []struct{ a, b, n int }{
		{-1, 0, 0}, {1 << 32, 0, 0}, {math.MinInt, 0, 0}, {math.MaxInt, 0, 5},
		{0, -1, 0}, {0, 1 << 32, 0}, {0, math.MinInt, 0}, {0, math.MaxInt, 5},
		{0, 0, -1}, {7, 7, math.MinInt}, {-1, -1, -1},
	} {
		if s, e := frame.Join(c.a, c.b, c.n); s != 0 || e != api.ErrArg {
			t.Errorf("Join(%d, %d, %d): %08x, error %d", c.a, c.b, c.n, s, e)
		}
	}
	if s, e := frame.Join(math.MaxUint32, math.MaxUint32, 0); s != 0 || e != api.OK {
		t.Errorf("the greatest sums: %08x, error %d", s, e)
	}
}

// 2.2

func TestFrame(t *testing.T) {
	if s, e := frame.Frame(""); s != "\xb5\x7e\x00\x00\x00\x00\x1c\xdf\x44\x21" || e != api.OK {
		t.Errorf("of nothing: %x, error %d", s, e)
	}
	for _, s := range []string{"", "a", "\x00", "\xb5\x7e", framed("in"), strings.Repeat("x", 255), strings.Repeat("x", 256), strings.Repeat("y", api.MaxFrame-1), strings.Repeat("z", api.MaxFrame)} {
		if f, e := frame.Frame(s); f != framed(s) || e != api.OK {
			t.Errorf("of %d bytes: %.20x, error %d, want %.20x", len(s), f, e, framed(s))
		}
	}
	if f, e := frame.Frame(strings.Repeat("z", api.MaxFrame+1)); f != "" || e != api.ErrLong {
		t.Errorf("of too many bytes: %d, error %d", len(f), e)
	}
}

func TestAll(t *testing.T) {
	full := strings.Repeat("z", api.MaxFrame)
	for _, l := range [][]string{nil, {}, {""}, {"a"}, {"a", "", "bc", "a"}, {full, full}} {
		var want string
		for _, s := range l {
			want += framed(s)
		}
		if s, e := frame.All(l); s != want || e != api.OK {
			t.Errorf("%d payloads: %d bytes, error %d, want %d", len(l), len(s), e, len(want))
		}
	}
	for _, l := range [][]string{{full + "z"}, {"a", full + "z"}, {full + "z", "a"}, {"", full + "zz", full + "z"}} {
		if s, e := frame.All(l); s != "" || e != api.ErrLong {
			t.Errorf("%d payloads, one too long: %d bytes, error %d", len(l), len(s), e)
		}
	}
	l := []string{"a", "b", "c", "d"}
	if frame.All(l[1:2]); !slices.Equal(l, []string{"a", "b", "c", "d"}) {
		t.Errorf("changed: %q", l)
	}
}

// 2.3

func TestOne(t *testing.T) {
	full := strings.Repeat("z", api.MaxFrame)
	for _, s := range []string{"", "a", "\xb5\x7e\x00", "hello", full} {
		for _, behind := range []string{"", "\xb5", "more", framed("more")} {
			if p, n, e := frame.One(framed(s) + behind); p != s || n != 10+len(s) || e != api.OK {
				t.Errorf("of %d bytes, and %d: %d bytes, %d, error %d", len(s), len(behind), len(p), n, e)
			}
		}
	}
}

func TestOneRefused(t *testing.T) {
	f := framed("hello")
	zeros := strings.Repeat("\x00", api.MaxFrame+20)
	for _, c := range []struct {
		s string
		e api.Errno
	}{
		{"a", api.ErrForm}, {"\x7e", api.ErrForm}, {"\x7e\xb5", api.ErrForm}, {"\xb5\xb5", api.ErrForm}, {"\xb5a", api.ErrForm},
		{"\x00" + f, api.ErrForm}, {"\xb4" + f[1:], api.ErrForm}, {"\xb5\x7f" + f[2:], api.ErrForm}, {zeros, api.ErrForm},
		{"", api.ErrShort}, {"\xb5", api.ErrShort}, {"\xb5\x7e", api.ErrShort}, {"\xb5\x7e\xff\xff\xff", api.ErrShort},
		{"\xb5\x7e\x01\x00\x01\x00", api.ErrLong}, {"\xb5\x7e\xff\xff\xff\xff", api.ErrLong}, {"\xb5\x7e\x00\x00\x00\x80", api.ErrLong},
		{"\xb5\x7e\x01\x00\x01\x00" + zeros, api.ErrLong},
		{"\xb5\x7e\x00\x00\x01\x00", api.ErrShort}, {"\xb5\x7e\x00\x00\x01\x00" + zeros[:api.MaxFrame+3], api.ErrShort},
		{"\xb5\x7e\x00\x00\x01\x00" + zeros[:api.MaxFrame+4], api.ErrSum},
		{"\xb5\x7e\x00\x00\x00\x00\x1c\xdf\x44\x20", api.ErrSum}, {"\xb5\x7e\x00\x00\x00\x00\x00\x00\x00\x00", api.ErrSum},
		{f[:2] + "\x04" + f[3:], api.ErrSum}, {f[:2] + "\x06" + f[3:], api.ErrShort}, {f[:2] + "\x06" + f[3:] + "x", api.ErrSum},
	} {
		if p, n, e := frame.One(c.s); p != "" || n != 0 || e != c.e {
			t.Errorf("%.20x of %d bytes: %q, %d, error %d, want %d", c.s, len(c.s), p, n, e, c.e)
		}
	}
	for cut := range f {
		if p, n, e := frame.One(f[:cut]); p != "" || n != 0 || e != api.ErrShort {
			t.Errorf("cut at %d: %q, %d, error %d", cut, p, n, e)
		}
	}
}

func TestOneBent(t *testing.T) {
	f := framed("hello") + "and more"
	for i := range len(f) * 8 {
		b := []byte(f)
		b[i/8] ^= 1 << (i % 8)
		p, n, e := frame.One(string(b))
		q, m, g := one(string(b))
		if p != q || n != m || e != g || e == api.OK && i < 15*8 {
			t.Errorf("bit %d turned: %q, %d, error %d, want %q, %d, %d", i, p, n, e, q, m, g)
		}
	}
}

// 2.4

func TestScan(t *testing.T) {
	a, b, full := framed("a"), framed("bc"), strings.Repeat("z", api.MaxFrame)
	for _, c := range []struct {
		s        string
		l        []string
		at, lost int
	}{
		{"", nil, 0, 0}, {"x", nil, 1, 1}, {"hello", nil, 5, 5}, {a, []string{"a"}, 11, 0},
		{framed("") + framed(""), []string{"", ""}, 20, 0},
		{"xy" + a + "z" + b + "..", []string{"a", "bc"}, 28, 5},
		{"\xb5" + a, []string{"a"}, 12, 1}, {"\xb5\x7e\xb5\x7e" + a, []string{"a"}, 15, 4},
		// It ends where bytes lack, be it that there is more to find behind.
		{"\xb5", nil, 0, 0}, {a + "\xb5\x7e", []string{"a"}, 11, 0}, {"x" + b[:11], nil, 1, 1},
		{"\xb5\x7e\xff\x00\x00\x00" + a, nil, 0, 0}, {a + "x\xb5\x7e\xff\x00\x00\x00" + b, []string{"a"}, 12, 1},
		// A frame that says too much is gone through like other bytes.
		{"\xb5\x7e\x01\x00\x01\x00" + a, []string{"a"}, 17, 6},
		// A frame in one that is bent is found, one in one that is right is not.
		{a[:2] + "\x00" + a[3:] + b, []string{"bc"}, 23, 11},
		{framed(b) + a, []string{b, "a"}, 33, 0}, {bend(framed(b)) + a, []string{"bc", "a"}, 33, 10},
		{framed(full) + "x" + framed(full) + framed(full)[:9], []string{full, full}, 2*(api.MaxFrame+10) + 1, 1},
	} {
		scanned(t, c.s, c.l, c.at, c.lost)
	}
}

// bend turns a bit of a frame's sum.
func bend(f string) string { return f[:6] + string([]byte{f[6] ^ 1}) + f[7:] }

// mixed is frames, pieces of frames, bent ones and other bytes.
func mixed(chance *rand.Rand) string {
	var b strings.Builder
	for range chance.Intn(12) {
		f := framed(some(chance, chance.Intn(200)))
		switch chance.Intn(7) {
		case 0:
			b.WriteString(bend(f))
		case 1:
			b.WriteString(f[chance.Intn(len(f)):])
		case 2:
			b.WriteString(some(chance, chance.Intn(20)))
		case 3:
			b.WriteString(bend(framed(some(chance, chance.Intn(9)) + f + f)))
		case 4:
			b.WriteString("\xb5\x7e" + four(chance.Intn(300)))
		default:
			b.WriteString(f)
		}
	}
	s := b.String()
	return s[:len(s)-chance.Intn(min(len(s), 5)+1)]
}

func TestScanMixed(t *testing.T) {
	chance := rand.New(rand.NewSource(6))
	found := 0
	for range 20000 {
		s := mixed(chance)
		l, at, lost := scan(s)
		scanned(t, s, l, at, lost)
		found += len(l)
	}
	if found < 20000 {
		t.Fatalf("%d payloads alone", found)
	}
}

func TestScanOfMuchThatLooksLikeFrames(t *testing.T) {
	s := strings.Repeat("\xb5\x7e\x00\x00\x01\x00", 1<<21/6) + strings.Repeat("x", api.MaxFrame+4)
	begin := time.Now()
	scanned(t, s, nil, len(s), len(s))
	if d := time.Since(begin); d > 30*time.Second {
		t.Errorf("took %v", d)
	}
}

// 2.5

func TestFramesAreFound(t *testing.T) {
	chance := rand.New(rand.NewSource(7))
	for range 300 {
		l := make([]string, chance.Intn(20))
		for i := range l {
			if l[i] = some(chance, chance.Intn(300)); chance.Intn(5) == 0 {
				l[i], _ = frame.Frame(l[i])
			}
		}
		s, e := frame.All(l)
		if e != api.OK {
			t.Fatalf("error %d", e)
		}
		scanned(t, s, l, len(s), 0)
	}
}

// turned is a text some of whose bits, from one on, are turned: those of 32 side by side that are 1 in which.
func turned(s string, from int, which uint32) string {
	b := []byte(s)
	for i := range 32 {
		if at := from + i; which>>i&1 == 1 && at < len(b)*8 {
			b[at/8] ^= 1 << (at % 8)
		}
	}
	return string(b)
}

func TestBitsSideBySide(t *testing.T) {
	chance := rand.New(rand.NewSource(8))
	for range 20000 {
		s := some(chance, 1+chance.Intn(40))
		u := turned(s, chance.Intn(len(s)*8), chance.Uint32()>>chance.Intn(32))
		if s != u && frame.Sum(s) == frame.Sum(u) {
			t.Fatalf("%x and %x: one sum", s, u)
		}
	}
}

func TestAnyBitsSideBySide(t *testing.T) {
	// What turning each bit alone does to the sum is of full rank, so no bits of 32 together do nothing.
	s := some(rand.New(rand.NewSource(9)), 40)
	for from := range len(s)*8 - 31 {
		var lead [32]int
		for i := range 32 {
			d := frame.Sum(s) ^ frame.Sum(turned(s, from, 1<<i))
			for k := 31; k >= 0 && d != 0; k-- {
				if d>>k&1 == 0 {
					continue
				}
				if lead[k] == 0 {
					lead[k], d = d, 0
					break
				}
				d ^= lead[k]
			}
		}
		for k, d := range lead {
			if d == 0 {
				t.Fatalf("bits from %d on: none leads at %d", from, k)
			}
		}
	}
}

// P1: any bytes are gone through, and told of as the document tells.
func TestAnyBytes(t *testing.T) {
	chance := rand.New(rand.NewSource(10))
	for range 20000 {
		b := make([]byte, chance.Intn(60))
		for i := range b {
			b[i] = "\xb5\x7e\x00\x01\xff"[chance.Intn(5)]
		}
		s := string(b)
		p, n, e := frame.One(s)
		if q, m, f := one(s); p != q || n != m || e != f {
			t.Fatalf("One(%x): %x, %d, error %d, want %x, %d, %d", s, p, n, e, q, m, f)
		}
		l, at, lost := scan(s)
		scanned(t, s, l, at, lost)
	}
}
