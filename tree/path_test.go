package tree_test

import (
	"math/rand"
	"slices"
	"strings"
	"testing"
	"time"

	"barque/api"
	"barque/tree"
)

// times is a text so many times.
func times(s string, n int) string { return strings.Repeat(s, n) }

// long is a path of n bytes, of names that are as long as may be (it ends with a slash where n is a multiple of 33).
func long(n int) string {
	s := times(times("x", api.MaxName)+"/", n/33+1)
	return s[:n]
}

// plainPath tells whether a path may be, as the document tells it.
func plainPath(s string) api.Errno {
	if len(s) > 200 {
		return api.ErrLong
	}
	for _, name := range strings.Split(s, "/") {
		if len(name) < 1 || len(name) > 32 || name == "." || name == ".." {
			return api.ErrPath
		}
		for i := range len(name) {
			if name[i] < 33 || name[i] > 126 {
				return api.ErrPath
			}
		}
	}
	return api.OK
}

// plainOrder tells how two paths stand: their names, as lists.
func plainOrder(a, b string) int {
	return slices.Compare(strings.Split(a, "/"), strings.Split(b, "/"))
}

// plainWithin tells whether the names of a path go on behind those of another one.
func plainWithin(s, in string) bool {
	l, m := strings.Split(s, "/"), strings.Split(in, "/")
	return len(l) > len(m) && slices.Equal(l[:len(m)], m)
}

// sign is -1, 0 or 1.
func sign(n int) int { return min(max(n, -1), 1) }

// allOf are all texts of at most n of some letters.
func allOf(letters string, n int) []string {
	l := []string{""}
	for at := 0; at < len(l); at++ {
		if len(l[at]) == n {
			break
		}
		for i := range len(letters) {
			l = append(l, l[at]+letters[i:i+1])
		}
	}
	return l
}

// somePath is a path of few names of few letters.
func somePath(chance *rand.Rand) string {
	s := ""
	for i := range 1 + chance.Intn(4) {
		if i > 0 {
			s += "/"
		}
		for range 1 + chance.Intn(2) {
			s += string("ab-!"[chance.Intn(4)])
		}
	}
	return s
}

// soon fails a test whose work takes longer than anybody waits.
func soon(t *testing.T, name string, work func()) {
	t.Helper()
	done := make(chan bool)
	go func() {
		work()
		close(done)
	}()
	select {
	case <-done:
	case <-time.After(20 * time.Second):
		t.Fatalf("%s: no end", name)
	}
}

// 9.1

// notPaths are texts that are no paths, and no patterns either.
func notPaths() map[string]api.Errno {
	m := map[string]api.Errno{}
	for _, s := range []string{
		"", "/", "//", "a/", "/a", "a//b", "a/b/", "//a", "a//",
		".", "..", "./a", "../a", "a/.", "a/..", "a/./b", "a/../b", "./.", "../..",
		" ", "a b", "a/ /b", "\x00", "a\x00", "\n", "\x1f", "\x20", "\x7f", "a\x7f", "\x80", "\xa1", "\xff", "a\xff", "a/\xfe/b",
		"é", "aé", "日", "a/日/b", "\u0080", "\ufffd", "😀", "\xc3", "\xe6\x97", "ａ",
		times("x", 33), "a/" + times("x", 33), times("x", 33) + "/a", "a/" + times("x", 33) + "/b", times(".", 33), times("x", 200),
		times("/", 200), long(199) + "/", long(198) + ".", long(198), long(197) + "/..", long(199) + " ", long(199) + "\xff", "/" + long(199), long(198) + "é",
	} {
		m[s] = api.ErrPath
	}
	for _, s := range []string{
		long(201), long(300), times("a/", 100) + "b", times("/", 201), times("x", 201), times(".", 201), times(" ", 201), times("é", 101), times("\xff", 201),
		long(199) + "//", long(200) + "/", "/" + long(200), long(199) + "/.", times("a", 1<<20),
	} {
		m[s] = api.ErrLong
	}
	return m
}

// paths are texts that are paths.
func paths() []string {
	return []string{
		"a", "ab", "a/b", "a/b/c", "a/a", "!", "~", "!/~", "0", "A", "\\", ":", "a:b", "*", "?", "**", "*?", "a*/b?",
		"...", "....", ".a", "a.", "..a", "a..", "a.b", ".../...", ".a/..b", "-", ".-", ".!", "a/...",
		times("x", 32), times("x", 32) + "/" + times("y", 32), "a/" + times(".", 32), times("a/", 99) + "b", times("a/", 99) + "bc",
		long(33) + "x", long(65), long(131), long(197), long(199), long(200),
	}
}

func TestPath(t *testing.T) {
	for _, s := range paths() {
		if e := tree.Path(s); e != api.OK {
			t.Errorf("%q: error %d", s, e)
		}
	}
	for s, want := range notPaths() {
		if e := tree.Path(s); e != want {
			t.Errorf("%.210q: error %d, want %d", s, e, want)
		}
	}
	if len(long(200)) != 200 || len(long(201)) != 201 {
		t.Error("the long paths are not as long as they should be")
	}
}

// Each byte in each place of a name.
func TestPathOfEachByte(t *testing.T) {
	for i := range 256 {
		c := string([]byte{byte(i)})
		for _, s := range []string{c, "a" + c, c + "a", "a" + c + "b", "a/" + c, c + "/a", "a/" + c + "/b", "a/b" + c, "a/" + c + c, "." + c, c + ".", "a." + c} {
			if e, want := tree.Path(s), plainPath(s); e != want {
				t.Errorf("%q: error %d, want %d", s, e, want)
			}
		}
	}
}

func TestPathOfAll(t *testing.T) {
	for _, s := range allOf("a./ \xc3\xa9", 6) {
		if e, want := tree.Path(s), plainPath(s); e != want {
			t.Fatalf("%q: error %d, want %d", s, e, want)
		}
	}
	for n := range 260 {
		for _, s := range []string{long(n), times("a/", n)[:n], times("x", n), times("x", n) + "/y", "y/" + times("x", n)} {
			if e, want := tree.Path(s), plainPath(s); e != want {
				t.Fatalf("%q: error %d, want %d", s, e, want)
			}
		}
	}
}

func TestOrder(t *testing.T) {
	// In order; the first example is among them.
	l := []string{
		"", "/", "/a", "!", "!/a", "!a", "-", "a", "a/", "a//", "a/\x00", "a/!", "a/b", "a/b/c", "a/b!", "a/~", "a\x00", "a\x00/a", "a!", "a-", "a-b", "a.", "a.b", "a0", "ab", "ab/a", "b", "b/a", "~", "\x80", "é", "\xff", "\xff/", "\xff\xff",
	}
	for i, a := range l {
		for j, b := range l {
			if n := tree.Order(a, b); sign(n) != sign(i-j) {
				t.Errorf("%q and %q: %d", a, b, n)
			}
		}
	}
	if tree.Order(times("a", 1000)+"/", times("a", 1000)+"\x00") >= 0 || tree.Order(long(200), long(200)) != 0 {
		t.Error("long paths stand otherwise")
	}
}

func TestOrderOfAll(t *testing.T) {
	l := allOf("/\x00-a\xff", 4)
	for _, a := range l {
		for _, b := range l {
			if n, want := tree.Order(a, b), plainOrder(a, b); sign(n) != want {
				t.Fatalf("%q and %q: %d, want %d", a, b, n, want)
			}
		}
	}
}

func TestWithin(t *testing.T) {
	for _, c := range []struct {
		s, in string
		want  bool
	}{
		{"a/b", "a", true}, {"a/b/c", "a", true}, {"a/b/c", "a/b", true}, {"a/a", "a", true}, {"ab/c", "ab", true},
		{"a", "a", false}, {"a/b", "a/b", false}, {"a", "a/b", false}, {"a", "b", false}, {"b/a", "a", false}, {"ab", "a", false}, {"ab/c", "a", false}, {"a-b", "a", false}, {"a/bc", "a/b", false}, {"a/b/c", "b", false}, {"A/b", "a", false}, {"a/b", "a/c", false},
		// Texts that are no paths: that, a slash, and anything or nothing.
		{"a/", "a", true}, {"a//", "a", true}, {"a//", "a/", true}, {"a//b", "a/", true}, {"a/b", "a/", false}, {"a/", "a/", false}, {"/", "", true}, {"/a", "", true}, {"//", "/", true}, {"//", "", true}, {"", "", false}, {"a", "", false}, {"", "a", false}, {"/", "/", false}, {"", "/", false},
		{"a/../b", "a", true}, {"\xff/\x00", "\xff", true}, {"é/a", "é", true}, {"\xc3/a", "é", false}, {"é/a", "\xc3", false}, {"a/\n", "a", true}, {"a\x00/", "a", false},
		{times("x", 500) + "/", times("x", 500), true}, {times("x", 500), times("x", 499), false}, {long(200) + "/a", long(200), true},
	} {
		if got := tree.Within(c.s, c.in); got != c.want {
			t.Errorf("%q in %q: %v", c.s, c.in, got)
		}
	}
	l := allOf("/ab\xff", 4)
	for _, s := range l {
		for _, in := range l {
			if got, want := tree.Within(s, in), plainWithin(s, in); got != want {
				t.Fatalf("%q in %q: %v", s, in, got)
			}
		}
	}
}
