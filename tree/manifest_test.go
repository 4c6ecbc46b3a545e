package tree_test

import (
	"crypto/sha256"
	"encoding/binary"
	"math"
	"math/rand"
	"slices"
	"strings"
	"testing"
	"unsafe"

	"barque/api"
	"barque/marks"
	"barque/tree"
)

// nums are numbers' bytes, one behind the other.
func nums(l ...int) string {
	var b []byte
	for _, n := range l {
		b = binary.AppendUvarint(b, uint64(n))
	}
	return string(b)
}

// numbered is an ideal book's mark of a number.
func numbered(n int) string {
	return string(binary.LittleEndian.AppendUint64(nil, uint64(n))) + times("\x00", 24)
}

// strong is SHA-256 by the library.
func strong(s string) string {
	m := sha256.Sum256([]byte(s))
	return string(m[:])
}

// item is an item of a path; what else it has tells of it.
func item(path string) api.Item {
	return api.Item{Path: path, Mode: 0o644, Size: len(path), Mark: strong(path)}
}

// items are items of such paths.
func items(paths ...string) (l []api.Item) {
	for _, s := range paths {
		l = append(l, item(s))
	}
	return l
}

// part is an item's bytes: how many bytes it shares, the others, and what else item gives the path.
func part(shares int, more, path string) string {
	x := item(path)
	return nums(shares, len(more)) + more + nums(x.Mode, x.Size) + x.Mark
}

// plainBytes is a manifest as bytes, as the document tells it.
func plainBytes(l []api.Item) string {
	s := nums(len(l))
	for i, x := range l {
		shares := 0
		for i > 0 && shares < len(x.Path) && strings.HasPrefix(l[i-1].Path, x.Path[:shares+1]) {
			shares++
		}
		s += nums(shares, len(x.Path)-shares) + x.Path[shares:] + nums(x.Mode, x.Size) + x.Mark
	}
	return s
}

// wrongItems are manifests that may not be, and why.
func wrongItems() map[string]struct {
	l    []api.Item
	want api.Errno
} {
	type wrong = struct {
		l    []api.Item
		want api.Errno
	}
	m := map[string]wrong{}
	for name, c := range wrongPaths() {
		m[name] = wrong{items(c.l...), c.want}
		// All paths are asked ahead of the first item.
		l := items(c.l...)
		for i := range l {
			l[i].Mode, l[i].Size, l[i].Mark = -1, -1, ""
		}
		m[name+", of wrong items"] = wrong{l, c.want}
	}
	l := items("a", "b", "c")
	for i := range l {
		at := ", item " + string(rune('0'+i))
		set := func(name string, want api.Errno, turn func(x *api.Item)) {
			m[name+at] = wrong{but(l, i, turn), want}
		}
		for name, mode := range map[string]int{"mode -1": -1, "mode 512": 512, "the least mode": math.MinInt, "the greatest mode": math.MaxInt, "mode 2^32": 1 << 32} {
			set(name, api.ErrMode, func(x *api.Item) { x.Mode = mode })
			set(name+", a wrong size and mark", api.ErrMode, func(x *api.Item) { x.Mode, x.Size, x.Mark = mode, -1, "" })
		}
		for name, size := range map[string]int{"size -1": -1, "size 65537": api.MaxFile + 1, "the least size": math.MinInt, "the greatest size": math.MaxInt, "size 2^32": 1 << 32} {
			set(name, api.ErrLong, func(x *api.Item) { x.Size = size })
			set(name+", a wrong mark", api.ErrLong, func(x *api.Item) { x.Size, x.Mark = size, "" })
		}
		for name, mark := range map[string]string{"no mark": "", "a mark too short": numbered(1)[:31], "a mark too long": numbered(1) + "\x00", "a mark of two": numbered(1) + numbered(2)} {
			set(name, api.ErrForm, func(x *api.Item) { x.Mark = mark })
		}
	}
	// Item by item.
	wrongMark := but(l, 0, func(x *api.Item) { x.Mark = "" })
	m["a wrong mark, then a wrong mode"] = wrong{but(wrongMark, 1, func(x *api.Item) { x.Mode = -1 }), api.ErrForm}
	m["a wrong mark, then a wrong size"] = wrong{but(wrongMark, 2, func(x *api.Item) { x.Size = -1 }), api.ErrForm}
	wrongSize := but(l, 0, func(x *api.Item) { x.Size = -1 })
	m["a wrong size, then a wrong mode"] = wrong{but(wrongSize, 1, func(x *api.Item) { x.Mode = -1 }), api.ErrLong}
	return m
}

// someItems is a manifest of a tree of few files.
func someItems(t *testing.T, chance *rand.Rand) []api.Item {
	t.Helper()
	l, e := tree.Items(marks.Real(), someTree(chance))
	if e != api.OK {
		t.Fatalf("error %d", e)
	}
	return l
}

// 9.3

func TestItems(t *testing.T) {
	l := []api.File{{Path: "a/b", Mode: 0, Data: ""}, {Path: "a/c", Mode: 0o777, Data: "same"}, {Path: "b", Mode: 7, Data: times("x", api.MaxFile)}, {Path: "c", Mode: 1, Data: "same"}}
	for _, c := range []struct {
		name  string
		b     *marks.Book
		marks []string
	}{
		{"real", marks.Real(), []string{strong(""), strong("same"), strong(times("x", api.MaxFile)), strong("same")}},
		{"ideal", marks.Ideal(), []string{numbered(1), numbered(2), numbered(3), numbered(2)}},
		// A book that is not ready gives no marks.
		{"nil", nil, []string{"", "", "", ""}},
		{"none", new(marks.Book), []string{"", "", "", ""}},
	} {
		want := []api.Item{{Path: "a/b", Mode: 0, Size: 0}, {Path: "a/c", Mode: 0o777, Size: 4}, {Path: "b", Mode: 7, Size: api.MaxFile}, {Path: "c", Mode: 1, Size: 4}}
		for i := range want {
			want[i].Mark = c.marks[i]
		}
		if got, e := tree.Items(c.b, l); !slices.Equal(got, want) || e != api.OK {
			t.Errorf("%s: %v, error %d, want %v", c.name, got, e, want)
		}
	}
	for name, paths := range rightPaths() {
		l := files(paths...)
		got, e := tree.Items(marks.Real(), l)
		if len(got) != len(l) || e != api.OK || tree.Right(got) != api.OK {
			t.Errorf("%s: %d items, error %d", name, len(got), e)
		}
		for i, x := range got {
			if x != (api.Item{Path: l[i].Path, Mode: l[i].Mode, Size: len(l[i].Data), Mark: strong(l[i].Data)}) {
				t.Errorf("%s: %v", name, x)
			}
		}
	}
}

// Of a tree that may not be nothing is marked.
func TestItemsRefused(t *testing.T) {
	b := marks.Ideal()
	refused := func(name string, l []api.File, want api.Errno) {
		if got, e := tree.Items(b, l); len(got) != 0 || e != want {
			t.Errorf("%s: %d items, error %d, want %d", name, len(got), e, want)
		}
		if _, e := tree.Items(nil, l); e != want {
			t.Errorf("%s, no book: error %d, want %d", name, e, want)
		}
	}
	for name, c := range wrongPaths() {
		refused(name, files(c.l...), c.want)
	}
	l := files("a", "b", "c")
	refused("a wrong mode", but(l, 2, func(f *api.File) { f.Mode = 512 }), api.ErrMode)
	refused("too long", but(l, 2, func(f *api.File) { f.Data = times("x", api.MaxFile+1) }), api.ErrLong)
	if m := b.Mark("other"); m != numbered(1) {
		t.Errorf("something was marked: %x", m)
	}
}

func TestRight(t *testing.T) {
	for name, paths := range rightPaths() {
		if e := tree.Right(items(paths...)); e != api.OK {
			t.Errorf("%s: error %d", name, e)
		}
	}
	l := items("a", "b", "c")
	for i := range l {
		for _, n := range []int{0, 1, 511} {
			if e := tree.Right(but(l, i, func(x *api.Item) { x.Mode = n })); e != api.OK {
				t.Errorf("mode %d: error %d", n, e)
			}
		}
		for _, n := range []int{0, 1, api.MaxFile - 1, api.MaxFile} {
			if e := tree.Right(but(l, i, func(x *api.Item) { x.Size = n })); e != api.OK {
				t.Errorf("size %d: error %d", n, e)
			}
		}
		for _, m := range []string{numbered(0), times("\xff", 32), strong("x"), numbered(1)} {
			if e := tree.Right(but(l, i, func(x *api.Item) { x.Mark = m })); e != api.OK {
				t.Errorf("mark %x: error %d", m, e)
			}
		}
	}
	for name, c := range wrongItems() {
		if e := tree.Right(c.l); e != c.want {
			t.Errorf("%s: error %d, want %d", name, e, c.want)
		}
	}
}

func TestBytes(t *testing.T) {
	m := times("m", 32)
	for _, c := range []struct {
		l    []api.Item
		want string
	}{
		{nil, "\x00"},
		{[]api.Item{{Path: "a", Mark: m}}, "\x01" + "\x00\x01a\x00\x00" + m},
		{[]api.Item{{Path: "ab", Mode: 0o777, Size: 65536, Mark: numbered(3)}}, "\x01" + "\x00\x02ab\xff\x03\x80\x80\x04" + numbered(3)},
		// What paths share is told by bytes, not by names.
		{[]api.Item{{Path: "ab/cd", Mode: 1, Size: 2, Mark: m}, {Path: "ab/ce", Mode: 3, Size: 4, Mark: m}, {Path: "ab0", Mark: m}, {Path: "b", Mark: m}},
			"\x04" + "\x00\x05ab/cd\x01\x02" + m + "\x04\x01e\x03\x04" + m + "\x02\x010\x00\x00" + m + "\x00\x01b\x00\x00" + m},
		// All of the path ahead.
		{[]api.Item{{Path: "a", Mark: m}, {Path: "ab", Mark: m}, {Path: "abc", Mark: m}}, "\x03" + "\x00\x01a\x00\x00" + m + "\x01\x01b\x00\x00" + m + "\x02\x01c\x00\x00" + m},
		{[]api.Item{{Path: long(199), Mark: m}, {Path: long(199) + "y", Mark: m}}, "\x02" + "\x00\xc7\x01" + long(199) + "\x00\x00" + m + "\xc7\x01\x01y\x00\x00" + m},
		{[]api.Item{{Path: "a/" + times("x", 32), Mark: m}, {Path: "aa", Mark: m}}, "\x02" + "\x00\x22a/" + times("x", 32) + "\x00\x00" + m + "\x01\x01a\x00\x00" + m},
	} {
		if s, e := tree.Bytes(c.l); s != c.want || e != api.OK {
			t.Errorf("%v: %q, error %d, want %q", c.l, s, e, c.want)
		}
		if l, e := tree.Of(c.want); !slices.Equal(l, c.l) || e != api.OK {
			t.Errorf("%q: %v, error %d, want %v", c.want, l, e, c.l)
		}
	}
	for name, paths := range rightPaths() {
		if s, e := tree.Bytes(items(paths...)); s != plainBytes(items(paths...)) || e != api.OK {
			t.Errorf("%s: %q, error %d", name, s, e)
		}
	}
	for name, c := range wrongItems() {
		if s, e := tree.Bytes(c.l); s != "" || e != c.want {
			t.Errorf("%s: %q, error %d, want %d", name, s, e, c.want)
		}
	}
}

func TestOfRefused(t *testing.T) {
	noNum := "\x80\x00"               // not the shortest form
	huge := times("\xff", 8) + "\x40" // the ninth byte above 63
	m := times("m", 32)
	a := part(0, "a", "a")
	for _, c := range []struct {
		name, s string
		want    api.Errno
	}{
		// How many.
		{"nothing", "", api.ErrShort},
		{"a cut count", "\x80", api.ErrShort},
		{"a count that is no number", noNum, api.ErrForm},
		{"a count too great for a number", huge, api.ErrForm},
		{"257 items", nums(257), api.ErrLong},
		{"257 items, all there", nums(257) + times(a, 257), api.ErrLong},
		{"as many as can be said", nums(api.MaxNum), api.ErrLong},
		{"256 items, of which none is there", nums(256), api.ErrShort},

		// Of an item something lacks, or is no number.
		{"no item", nums(1), api.ErrShort},
		{"an item less", nums(2) + a, api.ErrShort},
		{"shared alone", nums(1, 0), api.ErrShort},
		{"no bytes", nums(1, 0, 1), api.ErrShort},
		{"a byte less", nums(1, 0, 2) + "a", api.ErrShort},
		{"no mode", nums(1, 0, 1) + "a", api.ErrShort},
		{"no size", nums(1, 0, 1) + "a" + nums(0), api.ErrShort},
		{"no mark", nums(1, 0, 1) + "a" + nums(0, 0), api.ErrShort},
		{"a mark of 31 bytes", nums(1, 0, 1) + "a" + nums(0, 0) + m[:31], api.ErrShort},
		{"shared is no number", nums(1) + noNum + a[1:], api.ErrForm},
		{"shared is too great for a number", nums(1) + huge + a[1:], api.ErrForm},
		{"more is no number", nums(1, 0) + noNum + a[2:], api.ErrForm},
		{"mode is no number", nums(1, 0, 1) + "a" + noNum + nums(0) + m, api.ErrForm},
		{"size is no number", nums(1, 0, 1) + "a" + nums(0) + noNum + m, api.ErrForm},
		{"mode is too great for a number", nums(1, 0, 1) + "a" + huge + nums(0) + m, api.ErrForm},
		{"201 shared", nums(2) + a + nums(201, 0, 0, 0) + m, api.ErrLong},
		{"201 shared, and nothing else", nums(1, 201), api.ErrLong},
		{"201 more", nums(1, 0, 201) + times("x", 201) + nums(0, 0) + m, api.ErrLong},
		{"201 more, of which none is there", nums(1, 0, 201), api.ErrLong},
		{"as many shared as can be said", nums(1, api.MaxNum, 0, 0, 0) + m, api.ErrLong},
		{"as many more as can be said", nums(1, 0, api.MaxNum), api.ErrLong},

		// What is shared.
		{"the first shares", nums(1) + part(1, "a", "a"), api.ErrForm},
		{"the first shares all", nums(1) + part(1, "", "a"), api.ErrForm},
		{"the first shares 200", nums(1) + part(200, "", "a"), api.ErrForm},
		{"more than the path ahead has", nums(2) + a + part(2, "b", "ab"), api.ErrForm},
		{"200 of a path of one", nums(2) + a + part(200, "b", "ab"), api.ErrForm},
		{"fewer than it might", nums(2) + a + part(0, "ab", "ab"), api.ErrForm},
		{"one fewer than it might", nums(2) + part(0, "abc", "abc") + part(1, "bd", "abd"), api.ErrForm},
		{"fewer, and just the path ahead", nums(2) + a + part(0, "a", "a"), api.ErrForm},
		{"fewer, and ahead of the path ahead", nums(2) + part(0, "ac", "ac") + part(0, "ab", "ab"), api.ErrForm},
		{"what the one before the one ahead has", nums(3) + part(0, "abc", "abc") + part(1, "d", "ad") + part(3, "d", "abcd"), api.ErrForm},
		{"the third shares fewer", nums(3) + part(0, "a/b", "a/b") + part(2, "c", "a/c") + part(1, "/d", "a/d"), api.ErrForm},

		// Of an item the reader's error comes first, once all of it is read.
		{"it shares too many, and has no mark", nums(1, 1, 1) + "a" + nums(0, 0), api.ErrShort},
		{"it shares too many, and a cut mark", nums(1, 1, 1) + "a" + nums(0, 0) + m[:31], api.ErrShort},
		{"it shares too many, and 201 more", nums(1, 1, 201), api.ErrLong},
		{"it shares too few, and has no mode", nums(2) + a + nums(0, 2) + "ab", api.ErrShort},
		{"it shares too few, and a cut mark", nums(2) + a + nums(0, 2) + "ab" + nums(0, 0) + m[:31], api.ErrShort},
		// From the left.
		{"it shares too many ahead of one that lacks", nums(2) + part(1, "a", "a"), api.ErrForm},
		{"it shares too many ahead of one with 201 more", nums(2) + part(1, "a", "a") + nums(0, 201), api.ErrForm},
		{"it shares too few ahead of one that lacks", nums(3) + a + part(0, "ab", "ab"), api.ErrForm},
		{"it shares too many, and bytes are left", nums(1) + part(1, "a", "a") + "x", api.ErrForm},
		{"no path ahead of one that lacks", nums(2) + part(0, "", ""), api.ErrShort},
		{"no path ahead of one that shares too many", nums(2) + part(0, "", "") + part(1, "", ""), api.ErrForm},
		{"a wrong mode ahead of one that shares too few", nums(2, 0, 1) + "a" + nums(512, 0) + m + part(0, "ab", "ab"), api.ErrForm},

		// Bytes are left, ahead of what may not be.
		{"a byte behind none", nums(0, 0), api.ErrLong},
		{"a byte behind one", nums(1) + a + "\x00", api.ErrLong},
		{"an item more", nums(1) + a + part(1, "b", "ab"), api.ErrLong},
		{"a byte behind no path", nums(1) + part(0, "", "") + "\x00", api.ErrLong},
		{"a byte behind a wrong order", nums(2) + part(0, "b", "b") + part(0, "a", "a") + "\x00", api.ErrLong},
		{"a byte behind a wrong mode", nums(1, 0, 1) + "a" + nums(512, 0) + m + "\x00", api.ErrLong},

		// What is read may not be.
		{"no path", nums(1) + part(0, "", ""), api.ErrPath},
		{"a path with a slash behind it", nums(1) + part(0, "a/", "a/"), api.ErrPath},
		{"a path of any bytes", nums(1) + part(0, "\xff", "\xff"), api.ErrPath},
		{"no path behind one", nums(2) + a + part(1, "/", "a/"), api.ErrPath},
		{"a path of 201 bytes", nums(2) + part(0, long(200), "") + part(200, "x", ""), api.ErrLong},
		{"a path of 201 bytes of two", nums(2) + part(0, long(100), "") + part(100, long(101), ""), api.ErrLong},
		{"a path of 201 bytes behind no path", nums(3) + part(0, "", "") + part(0, long(200), "") + part(200, "x", ""), api.ErrPath},
		{"a path of 400 bytes", nums(2) + part(0, long(200), "") + part(200, long(200), ""), api.ErrLong},
		{"a path of 400 bytes, and a byte less of what follows", nums(3) + part(0, long(200), "") + part(200, long(200), "") + part(0, "b", "b")[:36], api.ErrShort},
		{"wrong order", nums(2) + part(0, "b", "b") + part(0, "a", "a"), api.ErrOrder},
		{"wrong order, name by name", nums(2) + part(0, "a-b", "a-b") + part(1, "/b", "a/b"), api.ErrOrder},
		{"it lies in the one ahead", nums(2) + a + part(1, "/b", "a/b"), api.ErrExist},
		{"twice", nums(2) + a + part(1, "", "a"), api.ErrExist},
		{"shorter than the one ahead", nums(2) + part(0, "ab", "ab") + part(1, "", "a"), api.ErrOrder},
		{"nothing, behind one", nums(2) + a + part(0, "", ""), api.ErrPath},
		{"mode 512", nums(1, 0, 1) + "a" + nums(512, 0) + m, api.ErrMode},
		{"the greatest mode", nums(1, 0, 1) + "a" + nums(api.MaxNum, api.MaxNum) + m, api.ErrMode},
		{"size 65537", nums(1, 0, 1) + "a" + nums(511, 65537) + m, api.ErrLong},
		{"the greatest size", nums(1, 0, 1) + "a" + nums(0, api.MaxNum) + m, api.ErrLong},
		{"a wrong mode, then wrong order", nums(2, 0, 1) + "b" + nums(512, 0) + m + part(0, "a", "a"), api.ErrOrder},
		{"a wrong size, then a wrong mode", nums(2, 0, 1) + "a" + nums(0, 65537) + m + nums(0, 1) + "b" + nums(512, 0) + m, api.ErrLong},
	} {
		if l, e := tree.Of(c.s); len(l) != 0 || e != c.want {
			t.Errorf("%s: %v of %q, error %d, want %d", c.name, l, c.s, e, c.want)
		}
	}
}

// As many items as may be, of numbers as great as may be.
func TestOfMost(t *testing.T) {
	var l []api.Item
	for _, s := range numberedPaths(api.MaxFiles) {
		l = append(l, api.Item{Path: times("x", 32) + "/" + times("y", 32) + "/" + s, Mode: 511, Size: api.MaxFile, Mark: times("\xff", 32)})
	}
	s, e := tree.Bytes(l)
	if e != api.OK || s != plainBytes(l) {
		t.Fatalf("%d bytes, error %d", len(s), e)
	}
	if got, e := tree.Of(s); !slices.Equal(got, l) || e != api.OK {
		t.Errorf("%d items, error %d", len(got), e)
	}
	if got, e := tree.Of(nums(257) + s[2:]); len(got) != 0 || e != api.ErrLong {
		t.Errorf("%d items, error %d", len(got), e)
	}
}

// 9.4

func TestBetween(t *testing.T) {
	a := items("!", "a/b", "a/c", "a-b", "b", "c")
	turn := func(i int, turn func(x *api.Item)) []api.Item { return but(a, i, turn) }
	for _, c := range []struct {
		name string
		a, b []api.Item
		want []api.Change
	}{
		{"nothing and nothing", nil, nil, nil},
		{"the same", a, a, nil},
		{"all gone", a[:3], nil, []api.Change{{Kind: 1, Path: "!"}, {Kind: 1, Path: "a/b"}, {Kind: 1, Path: "a/c"}}},
		{"all came", nil, a[:3], []api.Change{{Kind: 2, Path: "!"}, {Kind: 2, Path: "a/b"}, {Kind: 2, Path: "a/c"}}},
		{"the first is gone", a, a[1:], []api.Change{{Kind: 1, Path: "!"}}},
		{"the last is gone", a, a[:5], []api.Change{{Kind: 1, Path: "c"}}},
		{"the first came", a[1:], a, []api.Change{{Kind: 2, Path: "!"}}},
		{"the last came", a[:5], a, []api.Change{{Kind: 2, Path: "c"}}},
		{"one in the middle", items("a", "c"), items("a", "b", "c"), []api.Change{{Kind: 2, Path: "b"}}},
		{"others", items("a", "c", "e"), items("b", "d"), []api.Change{{Kind: 1, Path: "a"}, {Kind: 2, Path: "b"}, {Kind: 1, Path: "c"}, {Kind: 2, Path: "d"}, {Kind: 1, Path: "e"}}},
		{"another length", a, turn(1, func(x *api.Item) { x.Size++ }), []api.Change{{Kind: 3, Path: "a/b"}}},
		{"another mark", a, turn(1, func(x *api.Item) { x.Mark = numbered(9) }), []api.Change{{Kind: 3, Path: "a/b"}}},
		{"another length and mark", a, turn(1, func(x *api.Item) { x.Size, x.Mark = 0, numbered(9) }), []api.Change{{Kind: 3, Path: "a/b"}}},
		{"another mode", a, turn(4, func(x *api.Item) { x.Mode = 0 }), []api.Change{{Kind: 4, Path: "b"}}},
		{"another mode and mark", a, turn(4, func(x *api.Item) { x.Mode, x.Mark = 0, numbered(9) }), []api.Change{{Kind: 3, Path: "b"}}},
		{"another mode and length", a, turn(4, func(x *api.Item) { x.Mode, x.Size = 0, 7 }), []api.Change{{Kind: 3, Path: "b"}}},
		{"another path alone", a, turn(5, func(x *api.Item) { x.Path = "d" }), []api.Change{{Kind: 1, Path: "c"}, {Kind: 2, Path: "d"}}},
		{"a file becomes a folder", items("a", "b"), items("a/x", "a/y", "b"), []api.Change{{Kind: 1, Path: "a"}, {Kind: 2, Path: "a/x"}, {Kind: 2, Path: "a/y"}}},
		{"a folder becomes a file", items("a/x", "a/y", "b"), items("a", "b"), []api.Change{{Kind: 2, Path: "a"}, {Kind: 1, Path: "a/x"}, {Kind: 1, Path: "a/y"}}},
		{"name by name", items("a-b"), items("a/b"), []api.Change{{Kind: 2, Path: "a/b"}, {Kind: 1, Path: "a-b"}}},
	} {
		if got, e := tree.Between(c.a, c.b); !slices.Equal(got, c.want) || e != api.OK {
			t.Errorf("%s: %v, error %d, want %v", c.name, got, e, c.want)
		}
	}
}

func TestBetweenRefused(t *testing.T) {
	for name, c := range wrongItems() {
		for _, other := range [][]api.Item{nil, items("a", "b"), c.l} {
			if got, e := tree.Between(c.l, other); len(got) != 0 || e != c.want {
				t.Errorf("%s, the first: %v, error %d, want %d", name, got, e, c.want)
			}
			if got, e := tree.Between(other, c.l); len(got) != 0 || e != c.want {
				t.Errorf("%s, the second: %v, error %d, want %d", name, got, e, c.want)
			}
		}
	}
	if got, e := tree.Between(items("b", "a"), items("")); len(got) != 0 || e != api.ErrOrder {
		t.Errorf("%v, error %d", got, e)
	}
	if got, e := tree.Between(items(""), items("b", "a")); len(got) != 0 || e != api.ErrPath {
		t.Errorf("%v, error %d", got, e)
	}
}

// plainBetween is what became of the paths, each asked alone.
func plainBetween(a, b []api.Item) (l []api.Change) {
	was, is := map[string]api.Item{}, map[string]api.Item{}
	var all []string
	for _, x := range a {
		was[x.Path] = x
		all = append(all, x.Path)
	}
	for _, x := range b {
		is[x.Path] = x
		all = append(all, x.Path)
	}
	slices.SortFunc(all, plainOrder)
	for _, path := range slices.Compact(all) {
		x, wasThere := was[path]
		y, isThere := is[path]
		switch {
		case !isThere:
			l = append(l, api.Change{Kind: api.Gone, Path: path})
		case !wasThere:
			l = append(l, api.Change{Kind: api.Came, Path: path})
		case x.Mark != y.Mark || x.Size != y.Size:
			l = append(l, api.Change{Kind: api.Turned, Path: path})
		case x.Mode != y.Mode:
			l = append(l, api.Change{Kind: api.Remoded, Path: path})
		}
	}
	return l
}

func TestBetweenOfAny(t *testing.T) {
	chance := rand.New(rand.NewSource(94))
	told := map[int]int{}
	for range 6000 {
		a, b := someItems(t, chance), someItems(t, chance)
		got, e := tree.Between(a, b)
		if want := plainBetween(a, b); !slices.Equal(got, want) || e != api.OK {
			t.Fatalf("%v and %v: %v, error %d, want %v", a, b, got, e, want)
		}
		for _, c := range got {
			told[c.Kind]++
		}
	}
	for _, kind := range []int{api.Gone, api.Came, api.Turned, api.Remoded} {
		if told[kind] < 50 {
			t.Errorf("kind %d came %d times alone", kind, told[kind])
		}
	}
}

// 9.6

// What was made is read again; whatever is read has just those bytes: cut bytes, one more, and those of a byte that is another are refused, or are another manifest's.
func TestOfOfBytes(t *testing.T) {
	chance := rand.New(rand.NewSource(96))
	told := map[api.Errno]int{}
	for round := range 400 {
		l := someItems(t, chance)
		s, e := tree.Bytes(l)
		if s != plainBytes(l) || e != api.OK {
			t.Fatalf("round %d: %q, error %d", round, s, e)
		}
		if got, e := tree.Of(s); !slices.Equal(got, l) || e != api.OK {
			t.Fatalf("round %d: %v, error %d, want %v", round, got, e, l)
		}
		for n := range len(s) {
			if got, e := tree.Of(s[:n]); len(got) != 0 || e != api.ErrShort {
				t.Fatalf("round %d, %d of %d bytes: %v, error %d", round, n, len(s), got, e)
			}
		}
		if got, e := tree.Of(s + "\x00"); len(got) != 0 || e != api.ErrLong {
			t.Fatalf("round %d, a byte more: %v, error %d", round, got, e)
		}
		for i := range len(s) {
			bent := []byte(s)
			bent[i] = byte(chance.Intn(256) >> (chance.Intn(2) * 5))
			got, e := tree.Of(string(bent))
			told[e]++
			if e != api.OK {
				if len(got) != 0 {
					t.Fatalf("round %d, byte %d: error %d beside %v", round, i, e, got)
				}
				continue
			}
			if again, e := tree.Bytes(got); again != string(bent) || e != api.OK || tree.Right(got) != api.OK {
				t.Fatalf("round %d, byte %d: %v, error %d", round, i, got, e)
			}
		}
	}
	for _, e := range []api.Errno{api.OK, api.ErrShort, api.ErrLong, api.ErrForm, api.ErrPath, api.ErrOrder} {
		if told[e] < 10 {
			t.Errorf("error %d came %d times alone", e, told[e])
		}
	}
}

// What is answered shares no memory with what was handed in, and that stays as it is (R3).
func TestMemoryOfItems(t *testing.T) {
	memory := []byte("a/bcxy")
	text := func(from, to int) string { return unsafe.String(&memory[from], to-from) }
	got, e := tree.Items(marks.Real(), []api.File{{Path: text(0, 3), Data: text(4, 5)}, {Path: text(3, 4), Mode: 1, Data: text(4, 6)}})
	clear(memory)
	want := []api.Item{{Path: "a/b", Size: 1, Mark: strong("x")}, {Path: "c", Mode: 1, Size: 2, Mark: strong("xy")}}
	if !slices.Equal(got, want) || e != api.OK {
		t.Errorf("Items: %v, error %d, want %v", got, e, want)
	}

	s := plainBytes(want)
	memory = []byte(s)
	got, e = tree.Of(text(0, len(s)))
	if string(memory) != s {
		t.Errorf("Of: what was handed in is %q", memory)
	}
	clear(memory)
	if !slices.Equal(got, want) || e != api.OK {
		t.Errorf("Of: %v, error %d, want %v", got, e, want)
	}

	memory = []byte("abc")
	a := []api.Item{item("a"), item("b"), item("behind")}
	b := []api.Item{item("b"), item("c"), item("behind")}
	a[0].Path, a[1].Path, b[0].Path, b[1].Path = text(0, 1), text(1, 2), text(1, 2), text(2, 3)
	b[0].Mode = 0
	beforeA, beforeB := slices.Clone(a), slices.Clone(b)
	changes, e := tree.Between(a[:2], b[:2])
	if !slices.Equal(a, beforeA) || !slices.Equal(b, beforeB) || string(memory) != "abc" {
		t.Errorf("Between: what was handed in is %v and %v", a, b)
	}
	clear(memory)
	if !slices.Equal(changes, []api.Change{{Kind: 1, Path: "a"}, {Kind: 4, Path: "b"}, {Kind: 2, Path: "c"}}) || e != api.OK {
		t.Errorf("Between: %v, error %d", changes, e)
	}
}
