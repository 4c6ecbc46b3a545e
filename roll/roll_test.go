package roll_test

import (
	"math"
	"math/rand"
	"slices"
	"strings"
	"testing"
	"unsafe"

	"barque/api"
	"barque/roll"
)

// sum is a text's weak sum just as the document tells it.
func sum(s string) int {
	a, b := 0, 0
	for i, c := range []byte(s) {
		a += int(c)
		b += (len(s) - i) * int(c)
	}
	return a%65536 + 65536*(b%65536)
}

// joined is what a sum and one of n bytes behind it make, as the document tells it of a and b.
func joined(x, y, n int) int {
	a := x%65536 + y%65536
	b := x/65536 + n*(x%65536) + y/65536
	return a%65536 + 65536*(b%65536)
}

// places is roll.Find as the document tells it.
func places(s, what string) (l []int) {
	for at := 0; at+len(what) <= len(s); at++ {
		if s[at:at+len(what)] == what {
			l = append(l, at)
		}
	}
	return l
}

// some is n bytes, of which many are alike.
func some(chance *rand.Rand, n int) string {
	b := make([]byte, n)
	for i := range b {
		b[i] = byte(chance.Intn(256) >> (chance.Intn(3) * 4))
	}
	return string(b)
}

// few is n bytes of two kinds.
func few(chance *rand.Rand, n int) string {
	b := make([]byte, n)
	for i := range b {
		b[i] = "ab"[chance.Intn(2)]
	}
	return string(b)
}

// unready are windows that New did not give.
func unready() []*roll.Roll {
	refused, _ := roll.New("ab", 3)
	return []*roll.Roll{nil, {}, new(roll.Roll), refused}
}

// noSizes are sizes that no window has.
func noSizes() []int {
	return []int{0, -1, -2, math.MinInt, api.MaxBlock + 1, 1 << 16, 1<<16 + 1, 1<<32 + 1, math.MaxInt}
}

// over is a window of a size over s.
func over(t *testing.T, s string, size int) *roll.Roll {
	t.Helper()
	r, e := roll.New(s, size)
	if r == nil || e != api.OK {
		t.Fatalf("%d bytes, size %d: %v, error %d", len(s), size, r, e)
	}
	return r
}

// stands tells whether a window of a size over s is at a place, and tells its sum.
func stands(t *testing.T, r *roll.Roll, s string, size, at int) {
	t.Helper()
	if want := sum(s[at : at+size]); r.At() != at || r.Sum() != want {
		t.Fatalf("%d bytes, size %d: at %d, %08x, want at %d, %08x", len(s), size, r.At(), r.Sum(), at, want)
	}
}

// 4.1

func TestSum(t *testing.T) {
	for _, c := range []struct {
		s    string
		want int
	}{
		{"", 0}, {"ab", 19136707}, {"a", 97 + 97<<16}, {"ba", 195 + 293<<16}, {"abc", 294 + (3*97+2*98+99)<<16},
		{"\x00", 0}, {"\x00\x00\x00", 0}, {"\x00a", 97 + 97<<16}, {"a\x00", 97 + 194<<16}, {"\xff", 255 + 255<<16}, {"\x80", 128 + 128<<16},
		{"é", 0xc3 + 0xa9 + (2*0xc3+0xa9)<<16},
		// Both are modulo 65536, each by itself.
		{strings.Repeat("\xff", 256), 65280 + 255*256*257/2%65536<<16},
		{strings.Repeat("\xff", 257), 65535 + 255*257*258/2%65536<<16},
		{strings.Repeat("\xff", 258), 254 + 255*258*259/2%65536<<16},
		{strings.Repeat("\x01", 65535), 65535 + 32768<<16},
		{strings.Repeat("\x01", 65536), 32768 << 16},
		{"\x01" + strings.Repeat("\x00", 65534), 1 + 65535<<16},
		{"\x01" + strings.Repeat("\x00", 65535), 1},
		{"\x01" + strings.Repeat("\x00", 65536), 1 + 1<<16},
	} {
		if n := roll.Sum(c.s); n != c.want || n != sum(c.s) {
			t.Errorf("Sum of %.20q, %d bytes: %08x, want %08x", c.s, len(c.s), n, c.want)
		}
	}
}

func TestSumOfMany(t *testing.T) {
	chance := rand.New(rand.NewSource(1))
	for i := range 3000 {
		if s := some(chance, i%700); roll.Sum(s) != sum(s) {
			t.Errorf("Sum(%.20x): %08x, want %08x", s, roll.Sum(s), sum(s))
		}
	}
	for _, n := range []int{api.MaxBlock, 1<<16 - 1, 1 << 16, 1<<16 + 1, api.MaxSource, api.MaxSource + 1, api.MaxText, 3 << 20} {
		for _, s := range []string{some(chance, n), strings.Repeat("\xff", n)} {
			if roll.Sum(s) != sum(s) {
				t.Errorf("of %d bytes: %08x, want %08x", n, roll.Sum(s), sum(s))
			}
		}
	}
}

func TestJoin(t *testing.T) {
	chance := rand.New(rand.NewSource(2))
	for i := range 3000 {
		x, y := some(chance, chance.Intn(300)), some(chance, i%300)
		if n, e := roll.Join(sum(x), sum(y), len(y)); n != sum(x+y) || e != api.OK {
			t.Errorf("Join of %x and %x: %08x, error %d, want %08x", x, y, n, e, sum(x+y))
		}
	}
	for _, x := range []string{"", "ab", strings.Repeat("\xff", 1000), some(chance, api.MaxSource+7)} {
		for _, n := range []int{0, 1, 1<<16 - 1, 1 << 16, 1<<16 + 1, api.MaxSource - 1, api.MaxSource} {
			y := some(chance, n)
			if s, e := roll.Join(sum(x), sum(y), n); s != sum(x+y) || e != api.OK {
				t.Errorf("Join of %d and %d bytes: %08x, error %d, want %08x", len(x), n, s, e, sum(x+y))
			}
		}
	}
}

func TestJoinOfAnySums(t *testing.T) {
	chance := rand.New(rand.NewSource(3))
	for range 3000 {
		x, y, n := int(chance.Uint32()), int(chance.Uint32()), chance.Intn(api.MaxSource+1)
		if s, e := roll.Join(x, y, n); s != joined(x, y, n) || e != api.OK {
			t.Errorf("Join(%x, %x, %d): %08x, error %d, want %08x", x, y, n, s, e, joined(x, y, n))
		}
	}
	for _, x := range []int{0, 1, 65535, 65536, math.MaxUint32} {
		for _, y := range []int{0, 1, 65535, 65536, math.MaxUint32} {
			for _, n := range []int{0, 1, 65535, 65536, api.MaxSource} {
				if s, e := roll.Join(x, y, n); s != joined(x, y, n) || e != api.OK {
					t.Errorf("Join(%x, %x, %d): %08x, error %d, want %08x", x, y, n, s, e, joined(x, y, n))
				}
			}
		}
	}
}

func TestJoinRefused(t *testing.T) {
	for _, n := range []int{-1, math.MinInt, 1 << 32, 1<<32 + 1, -1 << 32, -math.MaxUint32, math.MaxInt} {
		for _, c := range [][3]int{{n, 0, 0}, {0, n, 0}, {n, n, n}, {n, 7, 7}, {7, n, 7}} {
			if s, e := roll.Join(c[0], c[1], c[2]); s != 0 || e != api.ErrArg {
				t.Errorf("Join(%d, %d, %d): %d, error %d", c[0], c[1], c[2], s, e)
			}
		}
	}
	for _, n := range []int{-1, -65536, math.MinInt, api.MaxSource + 1, 1 << 32, math.MaxInt} {
		if s, e := roll.Join(7, 7, n); s != 0 || e != api.ErrArg {
			t.Errorf("Join(7, 7, %d): %d, error %d", n, s, e)
		}
	}
}

// 4.2

func TestNew(t *testing.T) {
	chance := rand.New(rand.NewSource(4))
	for _, size := range []int{1, 2, 16, 257, api.MaxBlock - 1, api.MaxBlock} {
		for _, more := range []int{0, 1, 5000} {
			s := some(chance, size+more)
			stands(t, over(t, s, size), s, size, 0)
		}
		for _, n := range []int{0, size / 2, size - 1} {
			if r, e := roll.New(some(chance, n), size); r != nil || e != api.ErrShort {
				t.Errorf("%d bytes, size %d: %v, error %d", n, size, r, e)
			}
		}
	}
}

func TestNewRefused(t *testing.T) {
	for _, size := range noSizes() {
		// The size is looked at ahead of the text.
		for _, s := range []string{"", "a", strings.Repeat("a", api.MaxBlock), strings.Repeat("a", api.MaxBlock+1), strings.Repeat("a", 1<<17)} {
			if r, e := roll.New(s, size); r != nil || e != api.ErrArg {
				t.Errorf("%d bytes, size %d: %v, error %d", len(s), size, r, e)
			}
		}
	}
}

func TestNext(t *testing.T) {
	chance := rand.New(rand.NewSource(5))
	for _, size := range []int{1, 2, 3, 16, 256, 257, 700, api.MaxBlock} {
		for _, s := range []string{some(chance, size+3000), strings.Repeat("\xff", size+300), strings.Repeat("\xff\x00", size), some(chance, size)} {
			r := over(t, s, size)
			for at := range len(s) - size {
				stands(t, r, s, size, at)
				if !r.Next() {
					t.Fatalf("%d bytes, size %d: ends at %d", len(s), size, at)
				}
			}
			for range 3 {
				stands(t, r, s, size, len(s)-size)
				if r.Next() {
					t.Fatalf("%d bytes, size %d: goes on behind the end", len(s), size)
				}
			}
			stands(t, r, s, size, len(s)-size)
		}
	}
}

func TestSkip(t *testing.T) {
	chance := rand.New(rand.NewSource(6))
	for _, size := range []int{1, 16, 300, api.MaxBlock} {
		s := some(chance, size+2500)
		for _, n := range []int{0, 1, size - 1, size, size + 1, 2*size - 1, 2 * size, 2499, 2500} {
			r := over(t, s, size)
			if !r.Skip(n) {
				t.Fatalf("size %d: does not skip %d of 2500", size, n)
			}
			stands(t, r, s, size, n)
			// None is left to skip but what lies behind.
			for _, beyond := range []int{2501 - n, 2500 - n + size, 1 << 32, math.MaxInt - n, math.MaxInt, -1, -n - 1, math.MinInt} {
				if r.Skip(beyond) {
					t.Fatalf("size %d, at %d of 2500: skips %d", size, n, beyond)
				}
				stands(t, r, s, size, n)
			}
			if !r.Skip(0) || !r.Skip(2500-n) || !r.Skip(0) || r.Skip(1) || r.Next() {
				t.Fatalf("size %d, at %d of 2500: does not go on to the end, or beyond", size, n)
			}
			stands(t, r, s, size, 2500)
		}
	}
}

func TestUnready(t *testing.T) {
	for i, r := range unready() {
		for range 2 {
			for _, n := range []int{0, 1, -1, math.MaxInt, math.MinInt} {
				if r.Skip(n) || r.Next() || r.At() != -1 || r.Sum() != 0 {
					t.Errorf("window %d: at %d, %08x, or it goes on by %d", i, r.At(), r.Sum(), n)
				}
			}
		}
	}
}

// A window goes on as it did, whatever becomes of the memory in which its text was handed in (R3), and of other windows.
func TestTextsAreNotKeptAsTheyAre(t *testing.T) {
	memory := []byte("first text")
	r := over(t, unsafe.String(&memory[0], len(memory)), 3)
	copy(memory, "other text")
	for at := range len(memory) - 3 {
		stands(t, r, "first text", 3, at)
		r.Next()
	}
	if r.Skip(1) || !r.Skip(0) {
		t.Error("the end is not where it was")
	}
	stands(t, r, "first text", 3, len(memory)-3)
}

func TestWindowsGoByThemselves(t *testing.T) {
	const s = "one text, two windows"
	r, u := over(t, s, 4), over(t, s, 5)
	r.Next()
	u.Skip(7)
	u.Next()
	r.Next()
	stands(t, r, s, 4, 2)
	stands(t, u, s, 5, 8)
}

// 4.3

func TestAll(t *testing.T) {
	chance := rand.New(rand.NewSource(7))
	for _, size := range []int{1, 2, 16, 257, api.MaxBlock} {
		for _, n := range []int{0, 1, size - 1, size, size + 1, 2 * size, size + 3000} {
			s := some(chance, n)
			var want []int
			for at := 0; at+size <= n; at++ {
				want = append(want, sum(s[at:at+size]))
			}
			if l, e := roll.All(s, size); !slices.Equal(l, want) || e != api.OK {
				t.Errorf("%d bytes, size %d: %d sums, error %d, want %d", n, size, len(l), e, len(want))
			}
		}
	}
	if l, e := roll.All("aab", 2); !slices.Equal(l, []int{194 + 291<<16, 195 + 292<<16}) || e != api.OK {
		t.Errorf("of aab: %x, error %d", l, e)
	}
}

func TestAllRefused(t *testing.T) {
	for _, size := range noSizes() {
		for _, s := range []string{"", "a", strings.Repeat("a", api.MaxBlock+1), strings.Repeat("a", 1<<17)} {
			if l, e := roll.All(s, size); len(l) != 0 || e != api.ErrArg {
				t.Errorf("%d bytes, size %d: %d sums, error %d", len(s), size, len(l), e)
			}
		}
	}
}

func TestFind(t *testing.T) {
	full := strings.Repeat("z", api.MaxBlock)
	for _, c := range []struct {
		s, what string
		want    []int
	}{
		{"aaa", "aa", []int{0, 1}}, {"aaaa", "a", []int{0, 1, 2, 3}}, {"abcabcab", "abcab", []int{0, 3}},
		{"", "a", nil}, {"a", "aa", nil}, {"a", "a", []int{0}}, {"ab", "b", []int{1}}, {"ab", "c", nil}, {"ab", "ba", nil},
		{"\x00\x00\x00", "\x00", []int{0, 1, 2}}, {"\x00\x00\x01", "\x00\x01", []int{1}}, {"\xff\xfe", "\xfe", []int{1}}, {"\xff\xfe", "\xfd", nil},
		{full, full, []int{0}}, {full + "z", full, []int{0, 1}}, {full[1:], full, nil}, {full[1:] + "y" + full, full, []int{api.MaxBlock}},
		// Of one weak sum, of other bytes.
		{"\x01\x04\x01\x02\x02\x02", "\x02\x02\x02", []int{3}}, {"\x01\x04\x01", "\x02\x02\x02", nil}, {"\x02\x02\x02\x01\x04\x01", "\x01\x04\x01", []int{3}},
	} {
		if l, e := roll.Find(c.s, c.what); !slices.Equal(l, c.want) || e != api.OK {
			t.Errorf("%.20q of %d bytes in %.20q of %d: %v, error %d, want %v", c.what, len(c.what), c.s, len(c.s), l, e, c.want)
		}
	}
}

func TestFindAny(t *testing.T) {
	chance := rand.New(rand.NewSource(8))
	found := 0
	for range 5000 {
		s := few(chance, chance.Intn(200))
		what := few(chance, 1+chance.Intn(12))
		if at := chance.Intn(len(s) + 1); at < len(s) && chance.Intn(2) == 0 {
			what = s[at : at+1+chance.Intn(len(s)-at)]
		}
		l, e := roll.Find(s, what)
		if want := places(s, what); !slices.Equal(l, want) || e != api.OK {
			t.Fatalf("%q in %q: %v, error %d, want %v", what, s, l, e, want)
		}
		found += len(l)
	}
	if found < 5000 {
		t.Fatalf("%d places alone", found)
	}
}

func TestFindRefused(t *testing.T) {
	long := strings.Repeat("a", api.MaxBlock+1)
	for _, s := range []string{"", "a", long, long + long} {
		for _, what := range []string{"", long, long + "a", strings.Repeat("a", 1<<16+1)} {
			if l, e := roll.Find(s, what); len(l) != 0 || e != api.ErrArg {
				t.Errorf("%d bytes in %d: %v, error %d", len(what), len(s), l, e)
			}
		}
	}
}

// What is answered is new memory (R3): writing to it changes no later answer.
func TestAnswersAreNew(t *testing.T) {
	l, _ := roll.All("aab", 1)
	m, _ := roll.Find("aab", "a")
	for _, answer := range [][]int{l, m} {
		for i := range answer[:cap(answer)] {
			answer[:cap(answer)][i] = -7
		}
	}
	l, _ = roll.All("aab", 1)
	m, _ = roll.Find("aab", "a")
	if !slices.Equal(l, []int{sum("a"), sum("a"), sum("b")}) || !slices.Equal(m, []int{0, 1}) {
		t.Errorf("%x, %v", l, m)
	}
}

// Windows are told of over texts of any length.
func TestLongTexts(t *testing.T) {
	what := strings.Repeat("a", api.MaxBlock-1) + "b"
	s := strings.Repeat("a", 3<<20) + "b"
	if l, e := roll.Find(s, what); !slices.Equal(l, []int{len(s) - api.MaxBlock}) || e != api.OK {
		t.Errorf("%d places, error %d", len(l), e)
	}
	l, e := roll.All(s, api.MaxBlock)
	if len(l) != len(s)-api.MaxBlock+1 || e != api.OK || l[len(l)-2] != sum(s[:api.MaxBlock]) || l[len(l)-1] != sum(what) {
		t.Errorf("%d sums, error %d", len(l), e)
	}
	r := over(t, s, api.MaxBlock)
	if !r.Skip(len(s)-api.MaxBlock-1) || !r.Next() || r.Next() {
		t.Error("the end is not where it is")
	}
	stands(t, r, s, api.MaxBlock, len(s)-api.MaxBlock)
}

// 4.4

func TestAnyWay(t *testing.T) {
	chance := rand.New(rand.NewSource(9))
	for range 300 {
		s := some(chance, 1+chance.Intn(4000))
		size := 1 + chance.Intn(min(len(s), api.MaxBlock))
		r, at := over(t, s, size), 0
		for range 100 {
			n := 1
			ok := false
			if chance.Intn(2) == 0 {
				ok = r.Next()
			} else {
				n = chance.Intn(2*size+20) - 10
				ok = r.Skip(n)
			}
			if want := n >= 0 && at+n+size <= len(s); ok != want {
				t.Fatalf("%d bytes, size %d, at %d: goes on by %d: %v", len(s), size, at, n, ok)
			}
			if ok {
				at += n
			}
			stands(t, r, s, size, at)
			if r.Sum() != roll.Sum(s[at:at+size]) {
				t.Fatalf("%d bytes, size %d, at %d: %08x, want %08x", len(s), size, at, r.Sum(), roll.Sum(s[at:at+size]))
			}
		}
	}
}

func TestAllAreOfWindows(t *testing.T) {
	chance := rand.New(rand.NewSource(10))
	for range 300 {
		s := some(chance, 1+chance.Intn(1500))
		size := 1 + chance.Intn(min(len(s), api.MaxBlock))
		l, e := roll.All(s, size)
		if len(l) != len(s)-size+1 || e != api.OK {
			t.Fatalf("%d bytes, size %d: %d sums, error %d", len(s), size, len(l), e)
		}
		at := chance.Intn(len(l))
		r := over(t, s, size)
		if !r.Skip(at) || r.Sum() != l[at] || l[at] != roll.Sum(s[at:at+size]) {
			t.Fatalf("%d bytes, size %d, at %d: %08x, %08x", len(s), size, at, r.Sum(), l[at])
		}
	}
}
