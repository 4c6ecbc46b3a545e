package tree_test

import (
	"math"
	"math/rand"
	"slices"
	"strconv"
	"strings"
	"testing"
	"unsafe"

	"barque/api"
	"barque/marks"
	"barque/tree"
)

// file is a file of a path, with bytes that tell of it.
func file(path string) api.File { return api.File{Path: path, Mode: 0o644, Data: "in " + path} }

// files are files of such paths.
func files(paths ...string) (l []api.File) {
	for _, s := range paths {
		l = append(l, file(s))
	}
	return l
}

// but is a list in which one of its things is another.
func but[T any](l []T, i int, turn func(x *T)) []T {
	l = slices.Clone(l)
	turn(&l[i])
	return l
}

// numberedPaths are so many paths in order.
func numberedPaths(n int) (l []string) {
	for i := range n {
		l = append(l, "f"+strconv.Itoa(10000+i))
	}
	return l
}

// someTree is a tree of few files, of paths of few letters.
func someTree(chance *rand.Rand) (l []api.File) {
	for range chance.Intn(12) {
		f := api.File{Path: somePath(chance), Mode: chance.Intn(3), Data: times(string(rune('x'+chance.Intn(2))), chance.Intn(3))}
		i := 0
		for i < len(l) && plainOrder(l[i].Path, f.Path) < 0 {
			i++
		}
		with := slices.Insert(slices.Clone(l), i, f)
		if plainTogether(pathsOf(with)) == api.OK {
			l = with
		}
	}
	return l
}

// pathsOf are files' paths.
func pathsOf(l []api.File) (paths []string) {
	for _, f := range l {
		paths = append(paths, f.Path)
	}
	return paths
}

// plainTogether tells why paths may not stand together, as the document tells it.
func plainTogether(l []string) api.Errno {
	if len(l) > 256 {
		return api.ErrFull
	}
	for i, s := range l {
		if e := plainPath(s); e != api.OK {
			return e
		}
		if i > 0 && plainOrder(s, l[i-1]) < 0 {
			return api.ErrOrder
		}
		if i > 0 && (s == l[i-1] || plainWithin(s, l[i-1])) {
			return api.ErrExist
		}
	}
	return api.OK
}

// wrongPaths are lists of paths that may not stand together, and why.
func wrongPaths() map[string]struct {
	l    []string
	want api.Errno
} {
	type wrong = struct {
		l    []string
		want api.Errno
	}
	m := map[string]wrong{
		"a path too many":                       {numberedPaths(257), api.ErrFull},
		"many too many":                         {numberedPaths(1000), api.ErrFull},
		"too many, and no paths":                {make([]string, 257), api.ErrFull},
		"too many, of one":                      {slices.Repeat([]string{"a"}, 257), api.ErrFull},
		"the other way round":                   {[]string{"b", "a"}, api.ErrOrder},
		"the last ahead":                        {[]string{"b", "c", "a"}, api.ErrOrder},
		"the last ahead of the one ahead alone": {[]string{"a", "c", "b"}, api.ErrOrder},
		"byte by byte, but not name by name":    {[]string{"a-b", "a/b"}, api.ErrOrder},
		"what it lies in stands behind":         {[]string{"a/b", "a"}, api.ErrOrder},
		"upper letters behind lower ones":       {[]string{"a", "A"}, api.ErrOrder},
		"twice":                                 {[]string{"a", "a"}, api.ErrExist},
		"twice, further on":                     {[]string{"a", "b", "b/c", "d"}, api.ErrExist},
		"a file in a file":                      {[]string{"a", "a/b"}, api.ErrExist},
		"a file deep in a file":                 {[]string{"a/b", "a/b/c/d"}, api.ErrExist},
		// From the left; of a path its own error comes first.
		"no path, then too long":               {[]string{"", long(201)}, api.ErrPath},
		"too long, then no path":               {[]string{long(201), ""}, api.ErrLong},
		"no path behind wrong order":           {[]string{"b", "a", ""}, api.ErrOrder},
		"too long behind twice the same":       {[]string{"a", "a", long(201)}, api.ErrExist},
		"wrong order behind no path":           {[]string{"b", "", "a"}, api.ErrPath},
		"no path, which stands ahead":          {[]string{"b", "a/"}, api.ErrPath},
		"too long, and ahead":                  {[]string{"y", long(201)}, api.ErrLong},
		"no path, which lies in the one ahead": {[]string{"a", "a/.."}, api.ErrPath},
		"too long, in the one ahead":           {[]string{long(200), long(200) + "/x"}, api.ErrLong},
		"no path twice":                        {[]string{"a/", "a/"}, api.ErrPath},
		"wrong order, then twice":              {[]string{"b", "a", "a"}, api.ErrOrder},
		"twice, then wrong order":              {[]string{"b", "b", "a"}, api.ErrExist},
		"the last of many":                     {append(numberedPaths(255), "a"), api.ErrOrder},
		"the last of many again":               {append(numberedPaths(255), "f10254"), api.ErrExist},
	}
	for s, want := range notPaths() {
		name := strconv.Quote(s[:min(len(s), 210)])
		m["alone "+name] = wrong{[]string{s}, want}
		m["first "+name] = wrong{[]string{s, "~"}, want}
		m["last "+name] = wrong{[]string{"!", "!!", s}, want}
	}
	return m
}

// rightPaths are lists of paths that may stand together.
func rightPaths() map[string][]string {
	return map[string][]string{
		"none":                 nil,
		"one":                  {"a"},
		"in order":             {"!", "a/b", "a/c", "a/c-", "a-b", "a.b", "ab", "b"},
		"a name goes on":       {"a", "ab", "abc"},
		"name by name":         {"a/z", "a-", "a.", "a0"},
		"folders side by side": {"a/b/c", "a/b/d", "a/c", "b/b/c"},
		"as many as may be":    numberedPaths(256),
		"as long as may be":    {"!", long(200)},
	}
}

// 9.2

func TestCheck(t *testing.T) {
	for name, l := range rightPaths() {
		if e := tree.Check(files(l...)); e != api.OK {
			t.Errorf("%s: error %d", name, e)
		}
	}
	for name, c := range wrongPaths() {
		if e := tree.Check(files(c.l...)); e != c.want {
			t.Errorf("%s: error %d, want %d", name, e, c.want)
		}
		// All paths are asked ahead of the first file.
		l := files(c.l...)
		for i := range l {
			l[i].Mode, l[i].Data = -1, times("x", api.MaxFile+1)
		}
		if e := tree.Check(l); e != c.want {
			t.Errorf("%s, of wrong files: error %d, want %d", name, e, c.want)
		}
	}
}

func TestCheckOfFiles(t *testing.T) {
	l := files("a", "b", "c")
	tooLong := times("x", api.MaxFile+1)
	for i := range l {
		for _, mode := range []int{0, 1, 0o777} {
			if e := tree.Check(but(l, i, func(f *api.File) { f.Mode = mode })); e != api.OK {
				t.Errorf("mode %d: error %d", mode, e)
			}
		}
		for _, mode := range []int{-1, 512, 0o1000 + 0o644, math.MinInt, math.MaxInt, 1 << 32} {
			if e := tree.Check(but(l, i, func(f *api.File) { f.Mode = mode })); e != api.ErrMode {
				t.Errorf("mode %d: error %d", mode, e)
			}
			// Of a file its mode comes first.
			if e := tree.Check(but(l, i, func(f *api.File) { f.Mode, f.Data = mode, tooLong })); e != api.ErrMode {
				t.Errorf("mode %d, too long: error %d", mode, e)
			}
		}
		for n, want := range map[int]api.Errno{0: api.OK, 1: api.OK, api.MaxFile: api.OK, api.MaxFile + 1: api.ErrLong, api.MaxText: api.ErrLong} {
			if e := tree.Check(but(l, i, func(f *api.File) { f.Data = times("x", n) })); e != want {
				t.Errorf("%d bytes: error %d, want %d", n, e, want)
			}
		}
	}
	// File by file.
	first := but(l, 0, func(f *api.File) { f.Data = tooLong })
	if e := tree.Check(but(first, 1, func(f *api.File) { f.Mode = -1 })); e != api.ErrLong {
		t.Errorf("too long, then a wrong mode: error %d", e)
	}
	first = but(l, 0, func(f *api.File) { f.Mode = -1 })
	if e := tree.Check(but(first, 1, func(f *api.File) { f.Data = tooLong })); e != api.ErrMode {
		t.Errorf("a wrong mode, then too long: error %d", e)
	}
	if e := tree.Check(slices.Repeat([]api.File{{Path: "a", Mode: -1}}, 257)); e != api.ErrFull {
		t.Errorf("too many: error %d", e)
	}
}

func TestCheckOfAny(t *testing.T) {
	chance := rand.New(rand.NewSource(92))
	told := map[api.Errno]int{}
	for range 20000 {
		var l []string
		for range chance.Intn(5) {
			l = append(l, somePath(chance)+times("/", chance.Intn(20)/19))
		}
		if chance.Intn(2) == 0 {
			slices.SortFunc(l, plainOrder)
		}
		want := plainTogether(l)
		if e := tree.Check(files(l...)); e != want {
			t.Fatalf("%q: error %d, want %d", l, e, want)
		}
		told[want]++
	}
	for _, e := range []api.Errno{api.OK, api.ErrPath, api.ErrOrder, api.ErrExist} {
		if told[e] < 100 {
			t.Errorf("error %d came %d times alone", e, told[e])
		}
	}
}

func TestSort(t *testing.T) {
	for name, paths := range rightPaths() {
		want := files(paths...)
		l := slices.Clone(want)
		slices.Reverse(l)
		if got := tree.Sort(l); !slices.Equal(got, want) {
			t.Errorf("%s, the other way round: %q", name, pathsOf(got))
		}
		if got := tree.Sort(want); !slices.Equal(got, want) {
			t.Errorf("%s: %q", name, pathsOf(got))
		}
	}
	// Files that may not be are put in order as well, and stay as they are.
	l := []api.File{{Path: "a/b", Mode: -7, Data: "x"}, {Path: "a", Mode: 1 << 40}, {Path: "\xff"}, {}, {Path: "/"}, {Path: times("a", 300), Data: times("y", api.MaxFile+1)}, {Path: "a//"}}
	want := []api.File{l[3], l[4], l[1], l[6], l[0], l[5], l[2]}
	if got := tree.Sort(l); !slices.Equal(got, want) {
		t.Errorf("%.300q", pathsOf(got))
	}
	if got := tree.Sort(nil); len(got) != 0 {
		t.Errorf("%v", got)
	}
}

// Files of one path stay as they stood.
func TestSortOfOnePath(t *testing.T) {
	chance := rand.New(rand.NewSource(1))
	for round := range 300 {
		var l []api.File
		for i := range chance.Intn(300) {
			l = append(l, api.File{Path: somePath(chance)[:1], Mode: i, Data: strconv.Itoa(i)})
		}
		var want []api.File
		for _, path := range []string{"!", "-", "a", "b"} {
			for _, f := range l {
				if f.Path == path {
					want = append(want, f)
				}
			}
		}
		if got := tree.Sort(l); !slices.Equal(got, want) {
			t.Fatalf("round %d: %v", round, got)
		}
	}
}

func TestFind(t *testing.T) {
	for name, paths := range rightPaths() {
		l := files(paths...)
		for i, path := range paths {
			if got := tree.Find(l, path); got != i {
				t.Errorf("%s: %s is at %d, want %d", name, path, got, i)
			}
			for _, other := range []string{path + "/x", path + "/", path + "\x00", path + "!", path[:len(path)-1] + "#", "#" + path, "/" + path} {
				if got := tree.Find(l, other); got != -1 {
					t.Errorf("%s: %q is at %d", name, other, got)
				}
			}
		}
		for s := range notPaths() {
			if got := tree.Find(l, s); got != -1 {
				t.Errorf("%s: %.210q is at %d", name, s, got)
			}
		}
	}
	// A path that is only lain in is not there.
	for _, path := range []string{"a", "a/b", "b", "A/b/c"} {
		if got := tree.Find(files("a/b/c"), path); got != -1 {
			t.Errorf("%s is at %d", path, got)
		}
	}
}

func TestUnder(t *testing.T) {
	l := files("!", "a/b/c", "a/b/d/e", "a/b-c", "a/c", "a-b/c", "ab/c", "b")
	for _, c := range []struct {
		in   string
		want []api.File
	}{
		{"a", l[1:5]}, {"a/b", l[1:3]}, {"a/b/d", l[2:3]}, {"a-b", l[5:6]}, {"ab", l[6:7]},
		{"!", nil}, {"a/b/c", nil}, {"a/c", nil}, {"b", nil}, {"c", nil}, {"A", nil}, {"a/", nil}, {"/a", nil}, {"", nil}, {"/", nil}, {"a/b/d/", nil}, {"*", nil}, {".", nil}, {long(300), nil},
	} {
		if got := tree.Under(l, c.in); !slices.Equal(got, c.want) {
			t.Errorf("in %q: %q, want %q", c.in, pathsOf(got), pathsOf(c.want))
		}
	}
	// As they stand, also where they are no tree.
	l = []api.File{{Path: "a/c", Mode: -1}, {Path: "b/a/c"}, {Path: "a/b"}, {Path: "a"}, {Path: "a/"}, {Path: "a/c", Data: "x"}, {Path: "/x"}}
	if got := tree.Under(l, "a"); !slices.Equal(got, []api.File{l[0], l[2], l[4], l[5]}) {
		t.Errorf("%v", got)
	}
	if got := tree.Under(l, ""); !slices.Equal(got, l[6:]) {
		t.Errorf("%v", got)
	}
	if got := tree.Under(nil, "a"); len(got) != 0 {
		t.Errorf("%v", got)
	}
}

// What is handed in stays as it is, behind the lists' ends too, and what is answered shares no memory with it (R3).
func TestMemoryOfFiles(t *testing.T) {
	for name, call := range map[string]func(l []api.File) []api.File{
		"Sort":   tree.Sort,
		"Under":  func(l []api.File) []api.File { return tree.Under(l, "d") },
		"Filter": func(l []api.File) []api.File { l, _ = tree.Filter(l, []string{"d/*"}, nil); return l },
	} {
		memory := []byte("d/ad/bbytes")
		text := func(from, to int) string { return unsafe.String(&memory[from], to-from) }
		room := []api.File{{Path: text(0, 3), Mode: 1, Data: text(6, 11)}, {Path: text(3, 6), Mode: 2, Data: text(7, 9)}, {Path: "behind"}}
		if name == "Sort" {
			room[0], room[1] = room[1], room[0]
		}
		before := slices.Clone(room)
		got := call(room[:2])
		if !slices.Equal(room, before) || string(memory) != "d/ad/bbytes" {
			t.Errorf("%s: what was handed in is %v", name, room)
		}
		want := []api.File{{Path: "d/a", Mode: 1, Data: "bytes"}, {Path: "d/b", Mode: 2, Data: "yt"}}
		clear(memory)
		clear(room)
		if !slices.Equal(got, want) {
			t.Errorf("%s: %v, want %v", name, got, want)
		}
	}
}

// All calls end, and none panics, at arguments that have no end (R1).
func TestAnyArguments(t *testing.T) {
	chance := rand.New(rand.NewSource(9))
	text := func() string {
		switch chance.Intn(4) {
		case 0:
			return somePath(chance)
		case 1:
			return times([]string{"/", "a", "a/", "**/", "*", "é", "\xff", "."}[chance.Intn(8)], chance.Intn(120))
		}
		b := make([]byte, chance.Intn(6))
		chance.Read(b)
		return string(b)
	}
	soon(t, "any arguments", func() {
		for range 3000 {
			var l []api.File
			var items, others []api.Item
			for range chance.Intn(4) {
				l = append(l, api.File{Path: text(), Mode: chance.Intn(600) - 40, Data: text()})
				items = append(items, api.Item{Path: text(), Mode: chance.Intn(600) - 40, Size: chance.Intn(99) - 9, Mark: times("m", 31+chance.Intn(3))})
				others = append(others, api.Item{Path: text(), Size: math.MinInt, Mark: text()})
			}
			tree.Path(text())
			tree.Order(text(), text())
			tree.Within(text(), text())
			tree.Check(l)
			tree.Sort(l)
			tree.Find(l, text())
			tree.Under(l, text())
			tree.Items(marks.Ideal(), l)
			tree.Items(nil, l)
			tree.Items(new(marks.Book), l)
			tree.Right(items)
			tree.Bytes(items)
			tree.Of(text() + text())
			tree.Between(items, others)
			tree.Pattern(text())
			tree.Match(text(), text())
			tree.Filter(l, strings.Fields(text()), []string{text()})
		}
	})
}
