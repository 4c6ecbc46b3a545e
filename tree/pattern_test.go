package tree_test

import (
	"math/rand"
	"slices"
	"strings"
	"testing"
	"unsafe"

	"barque/api"
	"barque/tree"
)

// plainMatch tells whether a pattern fits a path, as the document tells it.
func plainMatch(pattern, path string) bool {
	if plainPath(pattern) != api.OK || plainPath(path) != api.OK {
		return false
	}
	return plainFits(strings.Split(pattern, "/"), strings.Split(path, "/"))
}

// plainFits tells whether a pattern's names fit all names: of any names it tries how many there may be.
func plainFits(pattern, names []string) bool {
	if len(pattern) == 0 {
		return len(names) == 0
	}
	if pattern[0] == "**" {
		for n := range len(names) + 1 {
			if plainFits(pattern[1:], names[n:]) {
				return true
			}
		}
		return false
	}
	return len(names) > 0 && plainFitsName(pattern[0], names[0]) && plainFits(pattern[1:], names[1:])
}

// plainFitsName tells whether a pattern's name fits all of a name.
func plainFitsName(pattern, name string) bool {
	switch {
	case pattern == "":
		return name == ""
	case pattern[0] == '*':
		return plainFitsName(pattern[1:], name) || name != "" && plainFitsName(pattern, name[1:])
	}
	return name != "" && (pattern[0] == '?' || pattern[0] == name[0]) && plainFitsName(pattern[1:], name[1:])
}

// 9.5

func TestPattern(t *testing.T) {
	for _, s := range append(paths(), "*", "?", "**", "***", "****", "*?*", "a**", "**a", "a**b", "**/**", "a/**/b", "**/a", "a/**", "*/*", "?/?", ".*", "*.", ".?", "?.", "*.*", "..*", times("*", 32), times("?", 32), times("*/", 99)+"**", times("**/", 66)+"*", times("**/", 66)+"ab") {
		if e := tree.Pattern(s); e != api.OK {
			t.Errorf("%q: error %d", s, e)
		}
	}
	wrong := notPaths()
	for _, s := range []string{"**/", "/**", "**//a", "a/**/", "*/", "/*", "?//?", "*/.", "**/..", "./*", "* ", "? ?", "**/ /a", "*\x00", "?\xff", "é*", times("*", 33), times("?", 33), "**/" + times("*", 33), times("*", 200), times("**/", 66) + ".."} {
		wrong[s] = api.ErrPath
	}
	for _, s := range []string{times("**/", 67), times("**/", 66) + "abc", times("*", 201), times("?", 1000), times("*/", 101)} {
		wrong[s] = api.ErrLong
	}
	for s, want := range wrong {
		if e := tree.Pattern(s); e != want {
			t.Errorf("%.210q: error %d, want %d", s, e, want)
		}
	}
}

func TestMatch(t *testing.T) {
	for _, c := range []struct {
		pattern string
		fits    []string
		not     []string
	}{
		{"a", []string{"a"}, []string{"b", "aa", "ab", "ba", "a/a", "b/a", "a/b", "A", "*", "?"}},
		{"a/b", []string{"a/b"}, []string{"a", "b", "a-b", "ab", "a/b/c", "a/bb", "aa/b", "c/a/b", "a/B"}},
		{"*", []string{"a", "abc", ".a", "...", "*", "?", "**", times("x", 32)}, []string{"a/b", "a/b/c"}},
		{"?", []string{"a", "?", "*", "!", "~"}, []string{"aa", "a/b", "..."}},
		{"??", []string{"ab", ".a", "**"}, []string{"a", "abc", "a/b", "a/bc"}},
		{"*?", []string{"a", "ab"}, []string{"a/b"}},
		{"?*?", []string{"ab", "abc", "..."}, []string{"a", "a/b", "ab/c"}},
		{"a*", []string{"a", "ab", "a-b", "a*"}, []string{"ba", "a/b", "b"}},
		{"*a", []string{"a", "ba", "aa", "aba"}, []string{"ab", "b/a", "aab"}},
		{"a*b", []string{"ab", "abb", "axb", "aab", "abab", "a*b"}, []string{"a", "b", "aba", "a/b", "ba", "a/bb"}},
		{"*a*", []string{"a", "ba", "ab", "bab"}, []string{"b", "b/a/b"}},
		{"a*b*c", []string{"abc", "aXbYc", "abbcc", "abcbc", "abcabc"}, []string{"acb", "ab", "bc", "abca", "ac"}},
		{"*.go", []string{"a.go", ".go", "a.go.go"}, []string{"a.gob", "a/b.go", "go"}},
		{"*ab*ab", []string{"abab", "xabyab", "aabab", "ababab", "abxabab"}, []string{"ab", "aab", "ababa", "abba"}},
		{"a?c", []string{"abc", "a?c", "acc"}, []string{"ac", "abbc", "a/c"}},
		{"a**b", []string{"ab", "axb", "a**b"}, []string{"a/b", "a/x/b", "aba"}},
		{"***", []string{"a", "ab", "***"}, []string{"a/b"}},
		{"**a", []string{"a", "ba", "aa"}, []string{"b/a", "a/a", "ab"}},
		{"a**", []string{"a", "ab"}, []string{"a/b", "ba"}},
		{"****", []string{"a", "abcd"}, []string{"a/b"}},
		{"**?", []string{"a", "ab"}, []string{"a/b"}},

		{"**", []string{"a", "a/b", "a/b/c", "**", "*", long(200)}, nil},
		{"**/**", []string{"a", "a/b", "a/b/c"}, nil},
		{"**/a", []string{"a", "b/a", "b/c/a", "a/a", "a/b/a"}, []string{"b", "a/b", "aa", "ba", "b/ba"}},
		{"a/**", []string{"a", "a/b", "a/b/c", "a/a"}, []string{"b", "b/a", "ab", "a-b", "aa/b"}},
		{"a/**/b", []string{"a/b", "a/c/b", "a/c/d/b", "a/b/b", "a/b/a/b"}, []string{"a", "b", "ab", "a/b/c", "c/a/b", "a/cb", "a/c/d/bb"}},
		{"**/a/**", []string{"a", "a/b", "b/a", "b/a/c", "a/a", "c/d/a/e/f"}, []string{"b", "aa", "b/c", "ba/ab"}},
		{"**/*", []string{"a", "a/b", "a/b/c"}, nil},
		{"*/**", []string{"a", "a/b", "a/b/c"}, nil},
		{"*/**/*", []string{"a/b", "a/b/c", "a/b/c/d"}, []string{"a"}},
		{"**/*/**/*", []string{"a/b", "a/b/c"}, []string{"a"}},
		{"*/*", []string{"a/b", "*/*"}, []string{"a", "a/b/c"}},
		{"?/*", []string{"a/b", "a/bcd"}, []string{"a", "ab/c", "a/b/c"}},
		{"**/a/b", []string{"a/b", "a/a/b", "a/b/a/b", "x/a/b"}, []string{"a/b/a", "b", "a/x/b", "a/a"}},
		{"**/a/**/a", []string{"a/a", "a/b/a", "b/a/a", "a/a/a", "b/a/c/a"}, []string{"a", "b/a", "a/b", "a/a/b"}},
		{"**/a*/**/b?", []string{"a/bb", "x/ab/y/bz", "a/b/bb"}, []string{"a/b", "a", "x/a", "x/bb"}},
		// The second example.
		{"a/**/c?", []string{"a/b/b/cd", "a/cd", "a/c?", "a/cc/cd"}, []string{"a/b/b/c", "a/b/b/cde", "b/cd", "a/b/cd/e", "cd"}},
		{times("a", 32), []string{times("a", 32)}, []string{times("a", 31), times("a", 31) + "b"}},
		{times("?", 32), []string{times("a", 32)}, []string{times("a", 31)}},
		{times("*", 32), []string{times("a", 32), "a"}, []string{"a/b"}},
		{long(200), []string{long(200)}, []string{long(199), long(199) + "y"}},
	} {
		for _, path := range c.fits {
			if !tree.Match(c.pattern, path) {
				t.Errorf("%s does not fit %s", c.pattern, path)
			}
		}
		for _, path := range c.not {
			if tree.Match(c.pattern, path) {
				t.Errorf("%s fits %s", c.pattern, path)
			}
		}
	}
}

// What may not be is fit by nothing, and fits nothing, not even itself.
func TestMatchRefused(t *testing.T) {
	for s := range notPaths() {
		for _, other := range []string{s, "a", "*", "**", "**/*", "?", "?/?", "a/**", ""} {
			if tree.Match(s, other) {
				t.Errorf("%.210q fits %.210q", s, other)
			}
			if tree.Match(other, s) {
				t.Errorf("%.210q fits %.210q", other, s)
			}
		}
	}
	for _, c := range [][2]string{{"**/", "a"}, {"/**", "a"}, {"a/**/", "a/b"}, {"**//**", "a"}, {times("*", 33), "a"}, {times("**/", 67) + "*", "a"}, {"**", long(201)}, {"**", times("a/", 100) + "b"}, {"*", times("x", 33)}, {"*", "."}, {"??", ".."}, {".*", "."}, {"*", "a "}, {"?", " "}, {"?", "é"}, {"*", "\xff"}} {
		if tree.Match(c[0], c[1]) {
			t.Errorf("%.210q fits %.210q", c[0], c[1])
		}
	}
}

func TestMatchOfAll(t *testing.T) {
	fit := 0
	paths := allOf("ab/", 5)
	for _, pattern := range allOf("a*?/", 5) {
		for _, path := range paths {
			got := tree.Match(pattern, path)
			if got != plainMatch(pattern, path) {
				t.Fatalf("%q and %q: %v", pattern, path, got)
			}
			if got {
				fit++
			}
		}
	}
	if fit < 1000 {
		t.Errorf("%d fit alone", fit)
	}
}

func TestMatchOfAny(t *testing.T) {
	chance := rand.New(rand.NewSource(95))
	some := func(letters string, n int) string {
		s := ""
		for range n {
			s += string(letters[chance.Intn(len(letters))])
		}
		return s
	}
	row := func(n int, name func() string) string {
		s := name()
		for range n {
			s += "/" + name()
		}
		return s
	}
	fit := 0
	for range 100000 {
		path := row(chance.Intn(6), func() string { return some("ab", 1+chance.Intn(4)) })
		pattern := row(chance.Intn(6), func() string {
			if chance.Intn(3) == 0 {
				return "**"
			}
			return some("ab**?", 1+chance.Intn(4))
		})
		got := tree.Match(pattern, path)
		if got != plainMatch(pattern, path) {
			t.Fatalf("%q and %q: %v", pattern, path, got)
		}
		if got {
			fit++
		}
	}
	if fit < 1000 {
		t.Errorf("%d fit alone", fit)
	}
}

// Patterns that may be tried in very many ways.
func TestMatchIsQuick(t *testing.T) {
	soon(t, "patterns with many ways", func() {
		for range 1000 {
			for _, c := range []struct {
				pattern, path string
				want          bool
			}{
				{times("**/", 66) + "b", times("a/", 99) + "a", false},
				{times("**/", 66) + "a", times("a/", 99) + "a", true},
				{times("**/a/", 39) + "b", times("a/", 99) + "a", false},
				{times("**/a/", 39) + "a", times("a/", 99) + "a", true},
				{times("**/*/", 39) + "b", times("a/", 99) + "a", false},
				{times("*a", 15) + "b", times("a", 32), false},
				{times("*a", 16), times("a", 32), true},
				{times("*", 31) + "b", times("a", 32), false},
				{"**/" + times(times("*a", 15)+"b/", 6) + "**", long(200), false},
				{times("**/"+times("*x", 15)+"y/", 5) + "**", long(200), false},
			} {
				if tree.Match(c.pattern, c.path) != c.want {
					t.Errorf("%s and %s: not %v", c.pattern, c.path, c.want)
					return
				}
			}
		}
	})
}

func TestFilter(t *testing.T) {
	l := files("!", "a/b", "a/c/d", "a.go", "b/x.go", "c")
	for _, c := range []struct {
		name    string
		in, out []string
		want    []api.File
	}{
		{"no patterns", nil, nil, l},
		{"empty lists", []string{}, []string{}, l},
		{"all in", []string{"**"}, nil, l},
		{"all out", nil, []string{"**"}, nil},
		{"all in and out", []string{"**"}, []string{"**"}, nil},
		{"one in", []string{"*"}, nil, []api.File{l[0], l[3], l[5]}},
		{"one out", nil, []string{"*"}, []api.File{l[1], l[2], l[4]}},
		{"none in", []string{"z"}, nil, nil},
		{"none out", nil, []string{"z"}, l},
		{"two in", []string{"c", "a/**"}, nil, []api.File{l[1], l[2], l[5]}},
		{"two out", nil, []string{"c", "a/**"}, []api.File{l[0], l[3], l[4]}},
		{"two that fit the same", []string{"a/*", "a/b", "a/b"}, nil, l[1:2]},
		{"in and out", []string{"**/*.go", "a/**"}, []string{"b/**", "**/d"}, []api.File{l[1], l[3]}},
		{"out of none that are in", []string{"a/*"}, []string{"b/**"}, l[1:2]},
		{"the path alone, not what lies in it", []string{"a"}, []string{"b"}, nil},
		{"the second out of two", []string{"**"}, []string{"z", "c"}, l[:5]},
	} {
		if got, e := tree.Filter(l, c.in, c.out); !slices.Equal(got, c.want) || e != api.OK {
			t.Errorf("%s: %q, error %d, want %q", c.name, pathsOf(got), e, pathsOf(c.want))
		}
	}
	if got, e := tree.Filter(nil, []string{"*"}, nil); len(got) != 0 || e != api.OK {
		t.Errorf("%v, error %d", got, e)
	}
}

func TestFilterRefused(t *testing.T) {
	l := files("a", "b")
	tooLong := times("*", 201)
	for name, c := range wrongPaths() {
		if got, e := tree.Filter(files(c.l...), []string{""}, []string{tooLong}); len(got) != 0 || e != c.want {
			t.Errorf("%s: %v, error %d, want %d", name, got, e, c.want)
		}
	}
	if got, e := tree.Filter(but(l, 1, func(f *api.File) { f.Mode = 512 }), nil, nil); len(got) != 0 || e != api.ErrMode {
		t.Errorf("a wrong mode: %v, error %d", got, e)
	}
	if got, e := tree.Filter(but(l, 1, func(f *api.File) { f.Data = times("x", api.MaxFile+1) }), []string{"a"}, nil); len(got) != 0 || e != api.ErrLong {
		t.Errorf("too long: %v, error %d", got, e)
	}
	for s, want := range notPaths() {
		for _, c := range [][2][]string{{{s}, nil}, {nil, {s}}, {{"**", s}, nil}, {nil, {"**", s}}, {{"a", s, "b"}, {"a"}}, {{"a"}, {"b", s, "c"}}, {{s, "a"}, nil}} {
			if got, e := tree.Filter(l, c[0], c[1]); len(got) != 0 || e != want {
				t.Errorf("%.210q: %v, error %d, want %d", c, got, e, want)
			}
			// Also where there is nothing that might fit.
			if _, e := tree.Filter(nil, c[0], c[1]); e != want {
				t.Errorf("%.210q, no files: error %d, want %d", c, e, want)
			}
		}
	}
	for _, c := range []struct {
		in, out []string
		want    api.Errno
	}{
		{[]string{"", tooLong}, nil, api.ErrPath}, {[]string{tooLong, ""}, nil, api.ErrLong}, {nil, []string{"", tooLong}, api.ErrPath}, {nil, []string{tooLong, ""}, api.ErrLong},
		{[]string{""}, []string{tooLong}, api.ErrPath}, {[]string{tooLong}, []string{""}, api.ErrLong}, {[]string{"a", "b", tooLong}, []string{""}, api.ErrLong},
	} {
		if got, e := tree.Filter(l, c.in, c.out); len(got) != 0 || e != c.want {
			t.Errorf("%.210q, %.210q: %v, error %d, want %d", c.in, c.out, got, e, c.want)
		}
	}
}

func TestFilterOfAny(t *testing.T) {
	chance := rand.New(rand.NewSource(5))
	patterns := []string{"**", "*", "a*", "?", "a/**", "**/b", "**/a/**", "*/*", "!*", "**/?-", "-/*/**"}
	some := func() (l []string) {
		for range chance.Intn(4) {
			l = append(l, patterns[chance.Intn(len(patterns))])
		}
		return l
	}
	for range 3000 {
		l, in, out := someTree(chance), some(), some()
		var want []api.File
		for _, f := range l {
			fits := func(pattern string) bool { return plainMatch(pattern, f.Path) }
			if (len(in) == 0 || slices.ContainsFunc(in, fits)) && !slices.ContainsFunc(out, fits) {
				want = append(want, f)
			}
		}
		if got, e := tree.Filter(l, in, out); !slices.Equal(got, want) || e != api.OK {
			t.Fatalf("%q, %q of %q: %q, error %d", in, out, pathsOf(l), pathsOf(got), e)
		}
	}
}

// Patterns that are handed in stay as they are, behind the lists' ends too (R3).
func TestMemoryOfPatterns(t *testing.T) {
	memory := []byte("**a*")
	in := []string{unsafe.String(&memory[0], 2), "a", "behind"}
	out := []string{unsafe.String(&memory[2], 2), "c", "behind"}
	got, e := tree.Filter(files("a", "b"), in[:2], out[:2])
	if len(got) != 1 || e != api.OK || string(memory) != "**a*" || !slices.Equal(in, []string{"**", "a", "behind"}) || !slices.Equal(out, []string{"a*", "c", "behind"}) {
		t.Errorf("%v, error %d; what was handed in is %q, %q", got, e, in, out)
	}
}
