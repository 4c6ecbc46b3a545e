package press_test

import (
	"math/rand"
	"strings"
	"testing"

	"barque/api"
	"barque/press"
)

// 8.2

// Pressed texts need not be as Press makes them.
func TestLoose(t *testing.T) {
	long := twice("0123456789abcdef", 300)
	for _, c := range []struct{ name, s, want string }{
		{"nothing", num(0), ""},
		{"a text", num(2) + text("ab"), "ab"},
		{"texts one behind the other", num(3) + text("a") + text("bc"), "abc"},
		{"a copy", num(9) + text("a") + part(8, 1), "aaaaaaaaa"},
		{"a copy that is not the longest", num(9) + text("aaa") + part(4, 3) + text("aa"), "aaaaaaaaa"},
		{"a copy that is not the nearest", num(8) + text("aaaa") + part(4, 4), "aaaaaaaa"},
		{"a copy from the middle", num(10) + text("abcdef") + part(4, 5), "abcdefbcde"},
		{"a copy that reaches into itself", num(12) + text("abc") + part(9, 2), "abcbcbcbcbcb"},
		{"a copy of a copy", num(14) + text("ab") + part(4, 2) + text("c") + part(7, 7), "abababcabababc"},
		{"back to the beginning", num(11) + text("abcdefg") + part(4, 7), "abcdefgabcd"},
		{"259 bytes", num(260) + text("a") + part(259, 1), twice("a", 260)},
		{"67 and 68 bytes", num(136) + text("a") + part(67, 1) + part(68, 1), twice("a", 136)},
		{"4096 back", num(4100) + text(long[:4096]) + part(4, 4096), long[:4096] + "0123"},
		{"4096 back of more", num(4804) + text(long) + part(4, 4096), long + long[704:708]},
		{"128 and 129 back", num(208) + text(long[:200]) + part(4, 128) + part(4, 129), long[:200] + long[72:76] + long[75:79]},
		{"a long text", num(4800) + text(long), long},
		{"MaxText bytes", num(api.MaxText) + text(twice("x", api.MaxText)), twice("x", api.MaxText)},
	} {
		if s, e := press.Loose(c.s); s != c.want || e != api.OK {
			t.Errorf("%s: %s, error %d, want %s", c.name, short(s), e, short(c.want))
		}
	}
}

func TestLooseRefused(t *testing.T) {
	noNum := "\x80\x00"                   // not the shortest form
	huge := twice("\xff", 8) + "\x40"     // the ninth byte above 63
	greatest := twice("\xff", 8) + "\x3f" // an odd number
	greatestEven := "\xfe" + twice("\xff", 7) + "\x3f"
	a300 := text(twice("a", 300))
	a5000 := text(twice("a", 5000))
	for _, c := range []struct {
		name, s string
		want    api.Errno
	}{
		// The length.
		{"nothing", "", api.ErrShort},
		{"a cut length", "\x80", api.ErrShort},
		{"a length that is no number", noNum, api.ErrForm},
		{"a length that is too great for a number", huge, api.ErrForm},
		{"a length above MaxText", num(api.MaxText + 1), api.ErrLong},
		{"a length above MaxText and all bytes", num(api.MaxText+1) + text(twice("x", api.MaxText+1)), api.ErrLong},
		{"a length above MaxText ahead of another error", num(api.MaxText+1) + "\x00", api.ErrLong},
		{"the greatest length", greatest, api.ErrLong},

		// What is next is no number, or lacks.
		{"only a length", num(2), api.ErrShort},
		{"a byte lacks, and more", num(2) + text("a"), api.ErrShort},
		{"a cut number", num(2) + "\x82", api.ErrShort},
		{"no number", num(2) + noNum, api.ErrForm},
		{"a number too great", num(2) + huge, api.ErrForm},
		{"no number behind a text", num(2) + text("a") + noNum, api.ErrForm},

		// A text.
		{"a text of no bytes", num(2) + num(0), api.ErrForm},
		{"a text of no bytes, then one", num(2) + num(0) + text("ab"), api.ErrForm},
		{"a text of no bytes behind one", num(2) + text("a") + num(0) + text("b"), api.ErrForm},
		{"a text of a byte more than lack", num(2) + text("abc"), api.ErrForm},
		{"more than lack behind one", num(2) + text("a") + text("bc"), api.ErrForm},
		{"more than lack ahead of what is cut", num(2) + num(6), api.ErrForm},
		{"the greatest text", num(2) + greatestEven, api.ErrForm},
		{"a cut text", num(2) + num(4) + "a", api.ErrShort},
		{"a text of which nothing is there", num(2) + num(4), api.ErrShort},
		{"a cut text of MaxText bytes", num(api.MaxText) + num(2*api.MaxText) + "abc", api.ErrShort},

		// A copy.
		{"a copy without how far back", num(9) + text("a") + num(9), api.ErrShort},
		{"a cut number behind a copy's", num(9) + text("a") + num(9) + "\x80", api.ErrShort},
		{"no number behind a copy's", num(9) + text("a") + num(9) + noNum, api.ErrForm},
		{"a number too great behind a copy's", num(9) + text("a") + num(9) + huge, api.ErrForm},
		{"a copy at the beginning", num(4) + part(4, 1), api.ErrForm},
		{"back beyond the beginning", num(5) + text("a") + part(4, 2), api.ErrForm},
		{"back beyond the beginning, further on", num(12) + text("abcd") + part(4, 4) + part(4, 9), api.ErrForm},
		{"4097 back", num(5004) + a5000 + part(4, 4097), api.ErrForm},
		{"4097 back beyond the beginning", num(304) + a300 + part(4, 4097), api.ErrForm},
		{"back as far as can be said", num(5) + text("a") + num(1) + greatest, api.ErrForm},
		{"260 bytes", num(560) + a300 + part(260, 1), api.ErrForm},
		{"260 bytes, of which less lack", num(310) + a300 + part(260, 1), api.ErrForm},
		{"as many bytes as can be said", num(api.MaxText) + text("a") + greatest + num(0), api.ErrForm},
		{"a byte more than lack", num(9) + text("a") + part(9, 1), api.ErrForm},
		{"the least copy is more than lack", num(4) + text("a") + part(4, 1), api.ErrForm},
		// What makes a copy wrong is asked when it was read.
		{"a copy too long without how far back", num(560) + a300 + num(2*256+1), api.ErrShort},
		{"as many bytes as can be said, without how far back", num(9) + text("a") + greatest, api.ErrShort},
		{"more than lack without how far back", num(9) + text("a") + num(11), api.ErrShort},
		{"a copy at the beginning without how far back", num(4) + num(1), api.ErrShort},
		{"a wrong copy ahead of no number", num(9) + part(4, 1) + noNum, api.ErrForm},

		// Bytes are left.
		{"a byte behind nothing", num(0) + "\x00", api.ErrLong},
		{"a text behind nothing", num(0) + text("a"), api.ErrLong},
		{"a byte behind a text", num(2) + text("ab") + "\x00", api.ErrLong},
		{"a copy behind all", num(9) + text("a") + part(8, 1) + part(4, 1), api.ErrLong},
		{"no number behind all", num(2) + text("ab") + noNum, api.ErrLong},
	} {
		if s, e := press.Loose(c.s); s != "" || e != c.want {
			t.Errorf("%s: %x of %x, error %d, want %d", c.name, short(s), short(c.s), e, c.want)
		}
		if s, e := press.Open("Z" + c.s); s != "" || e != c.want {
			t.Errorf("%s, wrapped: %x of %x, error %d, want %d", c.name, short(s), short(c.s), e, c.want)
		}
	}
}

// reader reads numbers and bytes as the document tells it, one by one.
type reader struct {
	s   string
	err api.Errno
}

func (r *reader) num() (n int) {
	for i := 0; r.err == api.OK; i++ {
		if r.s == "" {
			r.err = api.ErrShort
			break
		}
		c := int(r.s[0])
		r.s = r.s[1:]
		if c == 0 && i > 0 || i == 8 && c > 63 {
			r.err = api.ErrForm
			break
		}
		n += c % 128 << (7 * i)
		if c < 128 {
			return n
		}
	}
	return 0
}

// plainLoose is the text that was pressed, as the document tells it.
func plainLoose(s string) (string, api.Errno) {
	r := &reader{s: s}
	size := r.num()
	if r.err == api.OK && size > 1<<20 {
		r.err = api.ErrLong
	}
	made := ""
	for r.err == api.OK && len(made) < size {
		n := r.num()
		if r.err != api.OK {
			break
		}
		if n%2 == 0 {
			switch {
			case n == 0 || n/2 > size-len(made):
				r.err = api.ErrForm
			case n/2 > len(r.s):
				r.err = api.ErrShort
			default:
				made += r.s[:n/2]
				r.s = r.s[n/2:]
			}
			continue
		}
		n, back := (n-1)/2+4, r.num()+1
		if r.err != api.OK {
			break
		}
		if back > len(made) || back > 4096 || n > 259 || n > size-len(made) {
			r.err = api.ErrForm
			break
		}
		for range n {
			made += made[len(made)-back : len(made)-back+1]
		}
	}
	if r.err == api.OK && r.s != "" {
		r.err = api.ErrLong
	}
	if r.err != api.OK {
		return "", r.err
	}
	return made, api.OK
}

// Pressed texts that are cut, go on, or are bent, and any bytes.
func TestLooseAny(t *testing.T) {
	chance := rand.New(rand.NewSource(82))
	asks := func(s string) api.Errno {
		want, err := plainLoose(s)
		u, e := press.Loose(s)
		if u != want || e != err {
			t.Fatalf("%x: %x, error %d, want %x, error %d", s, short(u), e, short(want), err)
		}
		return e
	}
	told := map[api.Errno]int{}
	for range 300 {
		s, e := press.Press(woven(chance, chance.Intn(120), 3))
		if e != api.OK {
			t.Fatalf("error %d", e)
		}
		for n := range len(s) {
			if e := asks(s[:n]); e != api.ErrShort {
				t.Fatalf("%x, %d of its bytes: error %d", s, n, e)
			}
		}
		if e := asks(s + some(chance, 1+chance.Intn(3), 256)); e != api.ErrLong {
			t.Fatalf("%x, and more: error %d", s, e)
		}
		for i := range len(s) {
			told[asks(s[:i]+some(chance, 1, 256)+s[i+1:])]++
			told[asks(s[:i]+some(chance, 1, 12)+s[i+1:])]++
		}
	}
	for range 100000 {
		told[asks(some(chance, chance.Intn(12), 8))]++
	}
	for _, e := range []api.Errno{api.OK, api.ErrShort, api.ErrLong, api.ErrForm} {
		if told[e] < 100 {
			t.Errorf("error %d came %d times alone", e, told[e])
		}
	}
}

// MaxText bytes of copies: the last one lacks, is there, or says a byte too many.
func TestLooseMost(t *testing.T) {
	s := num(api.MaxText) + text("a") + strings.Repeat(part(259, 1), 4047)
	if u, e := press.Loose(s); u != "" || e != api.ErrShort {
		t.Errorf("%d bytes, error %d", len(u), e)
	}
	if u, e := press.Loose(s + part(259, 1) + part(143, 1)); u != twice("a", api.MaxText) || e != api.OK {
		t.Errorf("%d bytes, error %d", len(u), e)
	}
	if u, e := press.Loose(s + part(259, 1) + part(144, 1)); u != "" || e != api.ErrForm {
		t.Errorf("%d bytes, error %d", len(u), e)
	}
}
