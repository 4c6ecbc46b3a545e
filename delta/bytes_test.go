package delta_test

import (
	"math/rand"
	"slices"
	"strings"
	"testing"
	"unsafe"

	"barque/api"
	"barque/code"
	"barque/delta"
	"barque/marks"
)

// nums are numbers' bytes, one behind the other.
func nums(l ...int) (s string) {
	for _, n := range l {
		one, e := code.Num(n)
		if e != api.OK {
			panic(e)
		}
		s += one
	}
	return s
}

// 6.3

func TestBytes(t *testing.T) {
	both := numbered(1) + numbered(2)
	long := strings.Repeat("x", api.MaxLiteral)
	for _, c := range []struct {
		d    api.Delta
		want string
	}{
		{steps(), both + "\x00\x00"},
		// The second example.
		{steps(part(0, 40)), both + "\x28\x01\x51\x00"},
		{steps(text("ab")), both + "\x02\x01\x04ab"},
		{steps(part(5, 3), text("a"), part(0, 1), text("bc")), both + "\x07\x04" + "\x07\x05" + "\x02a" + "\x03\x00" + "\x04bc"},
		{steps(text(long)), both + nums(4096, 1, 8192) + long},
		{steps(part(api.MaxSource-1, 1)), both + nums(1, 1, 3, api.MaxSource-1)},
		{steps(part(0, api.MaxSource)), both + nums(api.MaxSource, 1, 2*api.MaxSource+1, 0)},
		{steps(slices.Repeat([]api.Step{part(1, 1)}, 300)...), both + nums(300, 300) + strings.Repeat("\x03\x01", 300)},
	} {
		if s, e := delta.Bytes(c.d); s != c.want || e != api.OK {
			t.Errorf("%v: %x, error %d, want %x", c.d, s, e, c.want)
		}
		if d, e := delta.Read(c.want); !same(d, c.d) || e != api.OK {
			t.Errorf("%x: %v, error %d, want %v", c.want, d, e, c.d)
		}
	}
	for cause, d := range wrong() {
		if s, e := delta.Bytes(d); s != "" || e != api.ErrArg {
			t.Errorf("%s: %x, error %d", cause, s, e)
		}
	}
}

func TestReadRefused(t *testing.T) {
	both := numbered(1) + numbered(2)
	noNum := "\x80\x00"                        // not the shortest form
	huge := strings.Repeat("\xff", 8) + "\x40" // the ninth byte above 63
	long := strings.Repeat("x", api.MaxLiteral+1)
	for _, c := range []struct {
		s    string
		want api.Errno
	}{
		{"", api.ErrShort}, {both[:31], api.ErrShort}, {both[:32], api.ErrShort}, {both[:63], api.ErrShort}, {both, api.ErrShort}, {both + "\x00", api.ErrShort},
		{both + noNum, api.ErrForm}, {both + huge, api.ErrForm}, {both + "\x00" + noNum, api.ErrForm}, {both + "\x00" + huge, api.ErrForm}, {both + "\x80", api.ErrShort},
		// Steps that lack, or whose numbers are none.
		{both + nums(1, 1), api.ErrShort}, {both + nums(1, 2, 2) + "x", api.ErrShort}, {both + nums(1, api.MaxNum), api.ErrShort},
		{both + nums(1, 1, 3), api.ErrShort}, {both + nums(1, 1, 2), api.ErrShort}, {both + nums(2, 1, 4) + "x", api.ErrShort}, {both + nums(1, 1, 3) + "\x80", api.ErrShort},
		{both + nums(1, 1) + noNum, api.ErrForm}, {both + nums(1, 1) + huge, api.ErrForm}, {both + nums(1, 1, 3) + noNum, api.ErrForm}, {both + nums(1, 1, 3) + huge, api.ErrForm},
		// Steps that may not be.
		{both + nums(0, 1, 0), api.ErrForm}, {both + nums(0, 1, 1, 0), api.ErrForm}, {both + nums(0, 1, 1, 5), api.ErrForm},
		{both + nums(4097, 1, 2*4097) + long, api.ErrForm}, {both + nums(api.MaxSource+1, 1, 2*api.MaxSource+3, 0), api.ErrForm},
		{both + nums(1, 1, 3, api.MaxSource), api.ErrForm}, {both + nums(1, 1, 3, api.MaxNum), api.ErrForm}, {both + nums(1, 1, api.MaxNum, 0), api.ErrForm}, {both + nums(1, 1, api.MaxNum, api.MaxNum), api.ErrForm},
		{both + nums(api.MaxSource, 1, 2*api.MaxSource+1, 1), api.ErrForm},
		// A step that lacks may not be either: the reader's error is named first.
		{both + nums(0, 1, 1), api.ErrShort}, {both + nums(0, 1, 1) + noNum, api.ErrForm}, {both + nums(4097, 1, 2*4097) + long[1:], api.ErrShort}, {both + nums(1, 1, api.MaxNum-1), api.ErrShort},
		// From the left: a step that may not be is ahead of what lacks, or is left.
		{both + nums(1, 2, 0), api.ErrForm}, {both + nums(1, 2, 0, 1), api.ErrForm}, {both + nums(1, 2, 1, 0) + huge, api.ErrForm}, {both + nums(1, 1, 0) + "more", api.ErrForm}, {both + nums(1, api.MaxNum, 0), api.ErrForm},
		{both + nums(1, 2, 2) + "x" + nums(0), api.ErrForm}, {both + nums(1, 2, 2) + "x" + "\x80", api.ErrShort},
		// Bytes are left: ahead of a delta that may not be.
		{both + nums(0, 0) + "x", api.ErrLong}, {both + nums(1, 1, 2) + "xy", api.ErrLong}, {both + nums(5, 1, 2) + "xy", api.ErrLong}, {both + nums(1, 0, 2) + "x", api.ErrLong}, {both + nums(api.MaxNum, 0) + "x", api.ErrLong},
		// It may not be.
		{both + nums(1, 0), api.ErrForm}, {both + nums(0, 1, 2) + "x", api.ErrForm}, {both + nums(2, 1, 2) + "x", api.ErrForm}, {both + nums(api.MaxNum, 0), api.ErrForm}, {both + nums(api.MaxSource+1, 0), api.ErrForm},
		{both + nums(api.MaxSource+1, 2, 2*api.MaxSource+1, 0, 2) + "x", api.ErrForm}, {both + nums(api.MaxSource, 2, 2*api.MaxSource+1, 0, 2) + "x", api.ErrForm},
	} {
		if d, e := delta.Read(c.s); !zero(d) || e != c.want {
			t.Errorf("%x: %v, error %d, want %d", c.s[:min(len(c.s), 90)], d, e, c.want)
		}
	}
}

// What was made is read again; cut bytes, and one more, are refused; of a bit that is bent it is another delta, or none.
func TestReadOfBytes(t *testing.T) {
	chance := rand.New(rand.NewSource(7))
	for round := range 300 {
		basis := some(chance, chance.Intn(300), 2)
		d := of(t, marks.Real(), basis, turned(chance, basis), 16)
		s, e := delta.Bytes(d)
		if e != api.OK {
			t.Fatalf("round %d: error %d", round, e)
		}
		if c, e := delta.Read(s); !same(c, d) || e != api.OK {
			t.Fatalf("round %d: %v, error %d, want %v", round, c, e, d)
		}
		for n := range len(s) {
			if c, e := delta.Read(s[:n]); !zero(c) || e != api.ErrShort {
				t.Fatalf("round %d, %d of %d bytes: %v, error %d", round, n, len(s), c, e)
			}
		}
		if c, e := delta.Read(s + "\x00"); !zero(c) || e != api.ErrLong {
			t.Fatalf("round %d, a byte more: %v, error %d", round, c, e)
		}
		i := chance.Intn(len(s) * 8)
		bent := []byte(s)
		bent[i/8] ^= 1 << (i % 8)
		c, e := delta.Read(string(bent))
		if e != api.OK {
			if !zero(c) {
				t.Fatalf("round %d, bit %d: error %d beside a delta", round, i, e)
			}
			continue
		}
		if again, e := delta.Bytes(c); same(c, d) || !delta.Right(c) || again != string(bent) || e != api.OK {
			t.Fatalf("round %d, bit %d: %v, error %d", round, i, c, e)
		}
	}
}

// What is read shares no memory with the bytes (R3).
func TestReadMemory(t *testing.T) {
	want := steps(text("ab"), part(0, 5), text("cd"))
	s, _ := delta.Bytes(want)
	memory := []byte(s)
	d, e := delta.Read(unsafe.String(&memory[0], len(memory)))
	clear(memory)
	if !same(d, want) || e != api.OK {
		t.Errorf("%v, error %d", d, e)
	}
}
