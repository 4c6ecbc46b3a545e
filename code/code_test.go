package code_test

import (
	"bytes"
	"encoding/binary"
	"math"
	"math/rand"
	"slices"
	"strings"
	"testing"

	"barque/api"
	"barque/code"
)

// making gives what was made, where no error is right.
func making(t *testing.T) func(string, api.Errno) string {
	return func(s string, e api.Errno) string {
		t.Helper()
		if e != api.OK {
			t.Fatalf("error %d", e)
		}
		return s
	}
}

// refused tells that an error came, and nothing beside it.
func refused(t *testing.T, s string, e, want api.Errno) {
	t.Helper()
	if s != "" || e != want {
		t.Errorf("%d bytes, error %d; want none, error %d", len(s), e, want)
	}
}

// edges are the numbers at which one more byte begins, and those beside them.
func edges() []int {
	l := []int{0, 1, 300, api.MaxNum - 1, api.MaxNum}
	for i := 7; i < 62; i += 7 {
		l = append(l, 1<<i-1, 1<<i, 1<<i+1)
	}
	return l
}

// signedEdges are numbers with a sign at the edges.
func signedEdges() []int {
	l := []int{-1 << 61, -1<<61 + 1, 1<<61 - 2, 1<<61 - 1}
	for _, n := range edges() {
		if n < 1<<61 {
			l = append(l, n, -n)
		}
	}
	return l
}

// 1.1

func TestNum(t *testing.T) {
	for _, c := range []struct {
		n    int
		want string
	}{
		{0, "\x00"}, {1, "\x01"}, {127, "\x7f"}, {128, "\x80\x01"}, {300, "\xac\x02"},
		{16383, "\xff\x7f"}, {16384, "\x80\x80\x01"},
		{1<<56 - 1, "\xff\xff\xff\xff\xff\xff\xff\x7f"},
		{1 << 56, "\x80\x80\x80\x80\x80\x80\x80\x80\x01"},
		{api.MaxNum, "\xff\xff\xff\xff\xff\xff\xff\xff\x3f"},
	} {
		if s, e := code.Num(c.n); s != c.want || e != api.OK {
			t.Errorf("Num(%d): %x, error %d", c.n, s, e)
		}
	}
	for _, n := range edges() {
		if s, _ := code.Num(n); s != string(binary.AppendUvarint(nil, uint64(n))) {
			t.Errorf("Num(%d): %x", n, s)
		}
	}
	for _, n := range []int{-1, -2, math.MinInt, api.MaxNum + 1, math.MaxInt} {
		s, e := code.Num(n)
		refused(t, s, e, api.ErrRange)
	}
}

func TestSigned(t *testing.T) {
	for _, c := range []struct {
		n    int
		want string
	}{
		{0, "\x00"}, {-1, "\x01"}, {1, "\x02"}, {-2, "\x03"}, {63, "\x7e"}, {-64, "\x7f"}, {64, "\x80\x01"},
		{1<<61 - 1, "\xfe\xff\xff\xff\xff\xff\xff\xff\x3f"},
		{-1 << 61, "\xff\xff\xff\xff\xff\xff\xff\xff\x3f"},
	} {
		if s, e := code.Signed(c.n); s != c.want || e != api.OK {
			t.Errorf("Signed(%d): %x, error %d", c.n, s, e)
		}
	}
	for _, n := range signedEdges() {
		if s, _ := code.Signed(n); s != string(binary.AppendVarint(nil, int64(n))) {
			t.Errorf("Signed(%d): %x", n, s)
		}
	}
	for _, n := range []int{1 << 61, -1<<61 - 1, api.MaxNum, -api.MaxNum, math.MaxInt, math.MinInt} {
		s, e := code.Signed(n)
		refused(t, s, e, api.ErrRange)
	}
}

func TestText(t *testing.T) {
	for _, c := range []struct{ s, want string }{
		{"", "\x00"}, {"ab", "\x02ab"}, {"\x00\xff", "\x02\x00\xff"},
		{strings.Repeat("x", 128), "\x80\x01" + strings.Repeat("x", 128)},
	} {
		if s, e := code.Text(c.s); s != c.want || e != api.OK {
			t.Errorf("Text(%q): %x, error %d", c.s, s, e)
		}
	}
	full := strings.Repeat("y", api.MaxText)
	if s, e := code.Text(full); s != "\x80\x80\x40"+full || e != api.OK {
		t.Errorf("Text of %d bytes: %d bytes, error %d", len(full), len(s), e)
	}
	s, e := code.Text(full + "y")
	refused(t, s, e, api.ErrLong)
}

func TestNums(t *testing.T) {
	for _, c := range []struct {
		l    []int
		want string
	}{
		{nil, "\x00"}, {[]int{}, "\x00"}, {[]int{0}, "\x01\x00"}, {[]int{1, 300, 0}, "\x03\x01\xac\x02\x00"},
	} {
		if s, e := code.Nums(c.l); s != c.want || e != api.OK {
			t.Errorf("Nums(%d): %x, error %d", c.l, s, e)
		}
	}
	s, e := code.Nums([]int{1, -1})
	refused(t, s, e, api.ErrRange)
	s, e = code.Nums([]int{api.MaxNum + 1, 2})
	refused(t, s, e, api.ErrRange)
	full := make([]int, api.MaxText)
	if s, e := code.Nums(full); s != "\x80\x80\x40"+strings.Repeat("\x00", api.MaxText) || e != api.OK {
		t.Errorf("Nums of %d: %d bytes, error %d", len(full), len(s), e)
	}
	s, e = code.Nums(append(full, 0))
	refused(t, s, e, api.ErrLong)
	s, e = code.Nums(append([]int{-1}, full...)) // that there are too many comes ahead of its parts
	refused(t, s, e, api.ErrLong)
}

func TestTexts(t *testing.T) {
	for _, c := range []struct {
		l    []string
		want string
	}{
		{nil, "\x00"}, {[]string{""}, "\x01\x00"}, {[]string{"", "c", "de"}, "\x03\x00\x01c\x02de"},
	} {
		if s, e := code.Texts(c.l); s != c.want || e != api.OK {
			t.Errorf("Texts(%q): %x, error %d", c.l, s, e)
		}
	}
	long := strings.Repeat("z", api.MaxText+1)
	s, e := code.Texts([]string{"a", long, "b"})
	refused(t, s, e, api.ErrLong)
	if s, e := code.Texts([]string{long[1:]}); s != "\x01\x80\x80\x40"+long[1:] || e != api.OK {
		t.Errorf("Texts of one that is full: %d bytes, error %d", len(s), e)
	}
	full := make([]string, api.MaxText)
	if s, e := code.Texts(full); s != "\x80\x80\x40"+strings.Repeat("\x00", api.MaxText) || e != api.OK {
		t.Errorf("Texts of %d: %d bytes, error %d", len(full), len(s), e)
	}
	s, e = code.Texts(append(full, ""))
	refused(t, s, e, api.ErrLong)
}

func TestListsStay(t *testing.T) {
	made := making(t)
	n := []int{1, 2, 3, 4}
	x := []string{"a", "b", "c"}
	made(code.Nums(n[:2]))
	made(code.Texts(x[:2]))
	if !slices.Equal(n, []int{1, 2, 3, 4}) || !slices.Equal(x, []string{"a", "b", "c"}) {
		t.Errorf("changed: %d, %q", n, x)
	}
}

// 1.2

func TestByte(t *testing.T) {
	r := code.Read("\x00\xffa")
	if a, b, c := r.Byte(), r.Byte(), r.Byte(); a != 0 || b != 255 || c != 'a' || r.Err() != api.OK {
		t.Errorf("%d, %d, %d, error %d", a, b, c, r.Err())
	}
	if n := r.Byte(); n != 0 || r.Err() != api.ErrShort {
		t.Errorf("at the end: %d, error %d", n, r.Err())
	}
}

func TestReadNum(t *testing.T) {
	ff := strings.Repeat("\xff", 8)
	for _, c := range []struct {
		s    string
		n    int
		left int
		e    api.Errno
	}{
		{"", 0, 0, api.ErrShort},
		{"\x00", 0, 0, api.OK},
		{"\x00\x00", 0, 1, api.OK},
		{"\x7f\x80", 127, 1, api.OK},
		{"\xac\x02", 300, 0, api.OK},
		{"\x80", 0, 0, api.ErrShort},
		{"\x80\x00", 0, 0, api.ErrForm},
		{"\x80\x80\x00", 0, 0, api.ErrForm},
		{"\xff\xff\x00\x01", 0, 0, api.ErrForm},
		{"\x80\x80\x01", 1 << 14, 0, api.OK},
		{ff, 0, 0, api.ErrShort},
		{ff + "\x00", 0, 0, api.ErrForm},
		{ff + "\x01", 1<<57 - 1, 0, api.OK},
		{ff + "\x3f", api.MaxNum, 0, api.OK},
		{ff + "\x40", 0, 0, api.ErrForm},
		{ff + "\x7f", 0, 0, api.ErrForm},
		{ff + "\x80", 0, 0, api.ErrForm},
		{ff + "\xbf\x01", 0, 0, api.ErrForm},
	} {
		r := code.Read(c.s)
		if n := r.Num(); n != c.n || r.Err() != c.e || r.Left() != c.left {
			t.Errorf("%x: %d, %d left, error %d", c.s, n, r.Left(), r.Err())
		}
	}
}

func TestReadSigned(t *testing.T) {
	ff := strings.Repeat("\xff", 8)
	for _, c := range []struct {
		s string
		n int
		e api.Errno
	}{
		{"\x00", 0, api.OK}, {"\x01", -1, api.OK}, {"\x02", 1, api.OK}, {"\x7f", -64, api.OK}, {"\x80\x01", 64, api.OK},
		{ff + "\x3f", -1 << 61, api.OK}, {"\xfe" + ff[1:] + "\x3f", 1<<61 - 1, api.OK},
		{"", 0, api.ErrShort}, {"\x81", 0, api.ErrShort}, {"\x81\x00", 0, api.ErrForm}, {ff + "\x40", 0, api.ErrForm},
	} {
		r := code.Read(c.s)
		if n := r.Signed(); n != c.n || r.Err() != c.e {
			t.Errorf("%x: %d, error %d", c.s, n, r.Err())
		}
	}
}

func TestRaw(t *testing.T) {
	r := code.Read("abc")
	if s := r.Raw(0); s != "" || r.Left() != 3 || r.Err() != api.OK {
		t.Errorf("none: %q, %d left, error %d", s, r.Left(), r.Err())
	}
	if s := r.Raw(2); s != "ab" || r.Left() != 1 || r.Err() != api.OK {
		t.Errorf("two: %q, %d left, error %d", s, r.Left(), r.Err())
	}
	if s := r.Raw(1); s != "c" || r.Left() != 0 || r.Err() != api.OK {
		t.Errorf("the last: %q, %d left, error %d", s, r.Left(), r.Err())
	}
	if s := r.Raw(0); s != "" || r.Err() != api.OK {
		t.Errorf("none at the end: %q, error %d", s, r.Err())
	}
	for _, c := range []struct {
		n int
		e api.Errno
	}{
		{-1, api.ErrArg}, {math.MinInt, api.ErrArg}, {4, api.ErrShort}, {math.MaxInt, api.ErrShort},
	} {
		r := code.Read("abc")
		if s := r.Raw(c.n); s != "" || r.Err() != c.e {
			t.Errorf("Raw(%d): %q, error %d", c.n, s, r.Err())
		}
	}
}

// 1.3

func TestCount(t *testing.T) {
	for _, c := range []struct {
		s    string
		most int
		n    int
		e    api.Errno
	}{
		{"\x05", 5, 5, api.OK}, {"\x05", math.MaxInt, 5, api.OK}, {"\x05", 4, 0, api.ErrLong},
		{"\x00", 0, 0, api.OK}, {"\x00", -1, 0, api.ErrLong}, {"\x00", math.MinInt, 0, api.ErrLong},
		{"", -1, 0, api.ErrShort}, {"\x80\x00", -1, 0, api.ErrForm},
	} {
		r := code.Read(c.s)
		if n := r.Count(c.most); n != c.n || r.Err() != c.e {
			t.Errorf("%x, at most %d: %d, error %d", c.s, c.most, n, r.Err())
		}
	}
}

func TestReadText(t *testing.T) {
	big := "\x81\x80\x40" + strings.Repeat("b", api.MaxText+1)
	for _, c := range []struct {
		s    string
		most int
		text string
		left int
		e    api.Errno
	}{
		{"\x02abc", 2, "ab", 1, api.OK}, {"\x00", 0, "", 0, api.OK}, {"\x00a", 9, "", 1, api.OK},
		{"\x02ab", 1, "", 0, api.ErrLong}, {"\x00", -1, "", 0, api.ErrLong},
		{"\x02a", 1, "", 0, api.ErrLong}, // that it is too long comes ahead of what lacks
		{"\x02a", 2, "", 0, api.ErrShort}, {"", 2, "", 0, api.ErrShort}, {"\x80", 2, "", 0, api.ErrShort},
		{"\x82\x00ab", 2, "", 0, api.ErrForm},
		{"\xff\xff\xff\xff\xff\xff\xff\xff\x3fab", math.MaxInt, "", 0, api.ErrShort},
		{big, api.MaxText + 1, big[3:], 0, api.OK}, {big, api.MaxText, "", 0, api.ErrLong},
	} {
		r := code.Read(c.s)
		if s := r.Text(c.most); s != c.text || r.Left() != c.left || r.Err() != c.e {
			t.Errorf("%.20q, at most %d: %d bytes, %d left, error %d", c.s, c.most, len(s), r.Left(), r.Err())
		}
	}
}

func TestReadNums(t *testing.T) {
	for _, c := range []struct {
		s    string
		most int
		l    []int
		left int
		e    api.Errno
	}{
		{"\x00", 0, nil, 0, api.OK}, {"\x02\x01\xac\x02\x07", 2, []int{1, 300}, 1, api.OK},
		{"\x02\x01\x02", 1, nil, 0, api.ErrLong}, {"\x00", -1, nil, 0, api.ErrLong},
		{"\x03\x01\x02", 3, nil, 0, api.ErrShort}, {"", 3, nil, 0, api.ErrShort},
		{"\x03\x01\x80\x00\x02", 3, nil, 0, api.ErrForm}, {"\x09\x01\x80\x00", 9, nil, 0, api.ErrForm},
		{"\xff\xff\xff\xff\xff\xff\xff\xff\x3f\x01\x02", math.MaxInt, nil, 0, api.ErrShort},
	} {
		r := code.Read(c.s)
		if l := r.Nums(c.most); !slices.Equal(l, c.l) || r.Left() != c.left || r.Err() != c.e {
			t.Errorf("%x, at most %d: %d, %d left, error %d", c.s, c.most, l, r.Left(), r.Err())
		}
	}
}

func TestReadTexts(t *testing.T) {
	for _, c := range []struct {
		s          string
		most, each int
		l          []string
		left       int
		e          api.Errno
	}{
		{"\x00", 0, -1, nil, 0, api.OK}, {"\x02\x00\x02cdx", 2, 2, []string{"", "cd"}, 1, api.OK},
		{"\x02\x00\x02cd", 1, 2, nil, 0, api.ErrLong}, {"\x02\x00\x02cd", 2, 1, nil, 0, api.ErrLong},
		{"\x01\x00", 1, -1, nil, 0, api.ErrLong}, {"\x00", -1, 1, nil, 0, api.ErrLong},
		{"\x02\x00\x02c", 2, 2, nil, 0, api.ErrShort}, {"\x02\x00", 2, 2, nil, 0, api.ErrShort},
		{"\x02\x00\x82\x00cd", 2, 2, nil, 0, api.ErrForm},
		{"\xff\xff\xff\xff\xff\xff\xff\xff\x3f\x00\x00", math.MaxInt, math.MaxInt, nil, 0, api.ErrShort},
	} {
		r := code.Read(c.s)
		if l := r.Texts(c.most, c.each); !slices.Equal(l, c.l) || r.Left() != c.left || r.Err() != c.e {
			t.Errorf("%x, at most %d of %d: %q, %d left, error %d", c.s, c.most, c.each, l, r.Left(), r.Err())
		}
	}
}

func TestReadListsApart(t *testing.T) {
	r := code.Read("\x01\x01\x01\x02")
	a, b := r.Nums(1), r.Nums(1)
	a[0] = 9
	if a = append(a, 8); b[0] != 2 {
		t.Errorf("lists share memory: %d", b)
	}
}

// 1.4

func TestLeft(t *testing.T) {
	r := code.Read("abc\x01")
	for _, c := range []struct {
		read func()
		left int
	}{
		{func() {}, 4}, {func() { r.Byte() }, 3}, {func() { r.Raw(2) }, 1}, {func() { r.Num() }, 0},
	} {
		if c.read(); r.Left() != c.left || r.Err() != api.OK {
			t.Errorf("%d left, want %d; error %d", r.Left(), c.left, r.Err())
		}
	}
}

// nothing tells whether a reader tells of nothing but its error.
func nothing(t *testing.T, r *code.Reader, e api.Errno) {
	t.Helper()
	for range 2 {
		if r.Byte() != 0 || r.Num() != 0 || r.Signed() != 0 || r.Raw(0) != "" || r.Raw(1) != "" || r.Raw(-1) != "" || r.Count(9) != 0 || r.Count(-1) != 0 {
			t.Error("something was read")
		}
		if r.Text(9) != "" || len(r.Nums(9)) != 0 || len(r.Texts(9, 9)) != 0 || r.Left() != 0 {
			t.Error("a text, a list or bytes were told")
		}
		if r.Err() != e || r.End() != e || r.Err() != e {
			t.Errorf("errors %d, %d; want %d", r.Err(), r.End(), e)
		}
	}
}

func TestFirstError(t *testing.T) {
	rest := "\x01\x02\x03\x00\x00"
	for _, c := range []struct {
		s    string
		read func(r *code.Reader)
		e    api.Errno
	}{
		{rest, func(r *code.Reader) { r.Raw(-1) }, api.ErrArg},
		{rest, func(r *code.Reader) { r.Raw(99) }, api.ErrShort},
		{rest, func(r *code.Reader) { r.Count(0) }, api.ErrLong},
		{"\x80\x00" + rest, func(r *code.Reader) { r.Num() }, api.ErrForm},
		{"\x80\x00" + rest, func(r *code.Reader) { r.Signed() }, api.ErrForm},
		{"\x05" + rest, func(r *code.Reader) { r.Text(4) }, api.ErrLong},
		{"\x09" + rest, func(r *code.Reader) { r.Text(9) }, api.ErrShort},
		{"\x02\x80\x00" + rest, func(r *code.Reader) { r.Nums(2) }, api.ErrForm},
		{"\x02\x00\x05" + rest, func(r *code.Reader) { r.Texts(2, 4) }, api.ErrLong},
		{rest, func(r *code.Reader) { r.End() }, api.ErrLong},
	} {
		r := code.Read(c.s)
		c.read(r)
		nothing(t, r, c.e)
	}
}

func TestEnd(t *testing.T) {
	if r := code.Read(""); r.Err() != api.OK || r.End() != api.OK || r.End() != api.OK {
		t.Errorf("empty: error %d", r.Err())
	}
	r := code.Read("\x01")
	if r.Num(); r.End() != api.OK || r.Err() != api.OK {
		t.Errorf("all was read: error %d", r.Err())
	}
	if r.Byte(); r.End() != api.ErrShort {
		t.Errorf("behind the end: error %d", r.Err())
	}
	r = code.Read("\x01\x02")
	if r.Num(); r.Err() != api.OK || r.End() != api.ErrLong || r.Err() != api.ErrLong {
		t.Errorf("bytes are left: error %d", r.Err())
	}
	if n := r.Num(); n != 0 {
		t.Errorf("behind an end that was none: %d", n)
	}
}

func TestNoReader(t *testing.T) {
	nothing(t, nil, api.ErrArg)
	if r := new(code.Reader); r.End() != api.OK || r.Byte() != 0 || r.End() != api.ErrShort {
		t.Errorf("a reader that Read did not give: error %d", r.Err())
	}
}

// 1.5

func TestMadeIsRead(t *testing.T) {
	made := making(t)
	nums, signed := edges(), signedEdges()
	texts := []string{"", "a", "\x00\x80", strings.Repeat("x", 300), strings.Repeat("y", api.MaxText)}
	var all strings.Builder
	for _, n := range nums {
		all.WriteString(made(code.Num(n)))
	}
	for _, n := range signed {
		all.WriteString(made(code.Signed(n)))
	}
	for _, s := range texts {
		all.WriteString(made(code.Text(s)))
	}
	all.WriteString(made(code.Nums(nums)) + made(code.Texts(texts)))
	r := code.Read(all.String())
	for _, n := range nums {
		if m := r.Num(); m != n {
			t.Errorf("%d: %d", n, m)
		}
	}
	for _, n := range signed {
		if m := r.Signed(); m != n {
			t.Errorf("%d: %d", n, m)
		}
	}
	for _, s := range texts {
		if u := r.Text(len(s)); u != s {
			t.Errorf("a text of %d bytes: %d", len(s), len(u))
		}
	}
	if l := r.Nums(len(nums)); !slices.Equal(l, nums) {
		t.Errorf("numbers: %d", l)
	}
	if l := r.Texts(len(texts), api.MaxText); !slices.Equal(l, texts) {
		t.Errorf("texts: %d", len(l))
	}
	if e := r.End(); e != api.OK {
		t.Errorf("error %d", e)
	}
}

func TestEachNumberHasOneForm(t *testing.T) {
	b := make([]byte, 0, 3)
	for i := range 1 << 24 {
		b = append(b[:0], byte(i), byte(i>>8), byte(i>>16))
		s := string(b)
		r := code.Read(s)
		n := r.Num()
		if r.Err() != api.OK {
			continue
		}
		if m, e := code.Num(n); e != api.OK || m != s[:len(s)-r.Left()] {
			t.Fatalf("%x: read %d of %d left, made %x, error %d", s, n, r.Left(), m, e)
		}
	}
}

// again reads a part of a kind, and makes its bytes from what was read.
func again(r *code.Reader, kind int) (string, api.Errno) {
	switch kind {
	case 0:
		return code.Num(r.Num())
	case 1:
		return code.Signed(r.Signed())
	case 2:
		return code.Num(r.Count(1 << 20))
	case 3:
		return code.Text(r.Text(40))
	case 4:
		return code.Nums(r.Nums(9))
	case 5:
		return code.Texts(r.Texts(5, 9))
	case 6:
		return string([]byte{byte(r.Byte())}), api.OK
	}
	return r.Raw(3), api.OK
}

func TestReadIsMade(t *testing.T) {
	chance := rand.New(rand.NewSource(1))
	whole := 0
	for range 200000 {
		b := make([]byte, chance.Intn(40))
		for i := range b {
			b[i] = byte(chance.Intn(256) >> (chance.Intn(3) * 3))
		}
		r := code.Read(string(b))
		for r.Left() > 0 {
			at := len(b) - r.Left()
			s, e := again(r, chance.Intn(8))
			if r.Err() != api.OK {
				break
			}
			if part := b[at : len(b)-r.Left()]; e != api.OK || !bytes.Equal([]byte(s), part) {
				t.Fatalf("%x: of %x was made %x, error %d", b, part, s, e)
			}
		}
		if r.End() == api.OK {
			whole++
		}
	}
	if whole < 1000 {
		t.Fatalf("%d texts alone were read to their end", whole)
	}
}
