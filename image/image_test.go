package image_test

import (
	"encoding/binary"
	"math"
	"math/rand"
	"slices"
	"strconv"
	"strings"
	"testing"
	"time"
	"unsafe"

	"barque/api"
	"barque/image"
	"barque/tree"
)

// times is a text so many times.
func times(s string, n int) string { return strings.Repeat(s, n) }

// nums are numbers' bytes, one behind the other.
func nums(l ...int) string {
	var b []byte
	for _, n := range l {
		b = binary.AppendUvarint(b, uint64(n))
	}
	return string(b)
}

// said is what an image tells of a file.
func said(path string, mode, size int) string { return nums(len(path)) + path + nums(mode, size) }

// plainOf is a tree's image, as the document tells it.
func plainOf(l []api.File) string {
	s, bytes := nums(len(l)), ""
	for _, f := range l {
		s += said(f.Path, f.Mode, len(f.Data))
		bytes += f.Data
	}
	return s + bytes
}

// long is a path of n bytes, of names that are as long as may be.
func long(n int) string { return times(times("x", api.MaxName)+"/", n/33+1)[:n] }

// file is a file of a path, with bytes that tell of it.
func file(path string) api.File { return api.File{Path: path, Mode: 0o644, Data: "in " + path} }

// files are files of such paths.
func files(paths ...string) (l []api.File) {
	for _, s := range paths {
		l = append(l, file(s))
	}
	return l
}

// many are so many files in order.
func many(n int) (l []api.File) {
	for i := range n {
		l = append(l, file("f"+strconv.Itoa(10000+i)))
	}
	return l
}

// full is a tree whose image has so many bytes, of which eight files have most.
func full(size int) (l []api.File) {
	for i := range 8 {
		l = append(l, api.File{Path: strconv.Itoa(i), Data: times(strconv.Itoa(i), api.MaxFile)})
	}
	l[7].Data = times("7", size-len(plainOf(l))+api.MaxFile)
	return l
}

// but is a list in which one of its things is another.
func but[T any](l []T, i int, turn func(x *T)) []T {
	l = slices.Clone(l)
	turn(&l[i])
	return l
}

// someTree is a tree of few files, of paths of few letters.
func someTree(chance *rand.Rand) (l []api.File) {
	for range chance.Intn(9) {
		path := []string{"a", "b", "a/b", "a/c", "a-", "b/c/d", "b/c", "c", "d/-", "!"}[chance.Intn(10)]
		f := api.File{Path: path, Mode: chance.Intn(2) * 300, Data: times(string(rune('x'+chance.Intn(2))), chance.Intn(3))}
		with := tree.Sort(append(slices.Clone(l), f))
		if tree.Check(with) == api.OK {
			l = with
		}
	}
	return l
}

// rightTrees are trees that may be, and have images.
func rightTrees() map[string][]api.File {
	return map[string][]api.File{
		"none":                nil,
		"the document's":      {{Path: "a", Data: "hi"}},
		"one, empty":          {{Path: "a"}},
		"one, of a mode":      {{Path: "a", Mode: 0o777, Data: "x"}},
		"in order":            files("!", "a/b", "a/c", "a-b", "b"),
		"some empty":          {{Path: "a"}, {Path: "b", Data: "x"}, {Path: "c"}, {Path: "d", Data: "yz"}, {Path: "e"}},
		"any bytes":           {{Path: "a", Data: "\x00\xff\x80"}, {Path: "b", Data: "é日"}},
		"a path of 127":       files(long(127)),
		"a path of 128":       files(long(128)),
		"as long as may be":   files("!", long(200)),
		"bytes of 127":        {{Path: "a", Mode: 127, Data: times("x", 127)}},
		"bytes of 128":        {{Path: "a", Mode: 128, Data: times("x", 128)}},
		"as many bytes":       {{Path: "a", Data: times("x", api.MaxFile)}, {Path: "b", Data: times("y", api.MaxFile)}},
		"127 files":           many(127),
		"128 files":           many(128),
		"as many as may be":   many(api.MaxFiles),
		"as full as may be":   full(image.Most),
		"nearly full":         full(image.Most - 1),
		"full of the longest": {{Path: long(200), Mode: 0o777, Data: times("x", api.MaxFile)}},
	}
}

// wrongTrees are trees that may not be, and why.
func wrongTrees() map[string]struct {
	l    []api.File
	want api.Errno
} {
	type wrong = struct {
		l    []api.File
		want api.Errno
	}
	l := files("a", "b", "c")
	tooLong := times("x", api.MaxFile+1)
	m := map[string]wrong{
		"too many":                           {many(257), api.ErrFull},
		"too many, of one":                   {slices.Repeat(files(""), 257), api.ErrFull},
		"no path":                            {files(""), api.ErrPath},
		"no path, at the end":                {files("a", "b", "c/"), api.ErrPath},
		"a path of two points":               {files("a/.."), api.ErrPath},
		"a path of 201 bytes":                {files(long(201)), api.ErrLong},
		"wrong order":                        {files("b", "a"), api.ErrOrder},
		"byte by byte, but not name by name": {files("a-b", "a/b"), api.ErrOrder},
		"twice":                              {files("a", "a"), api.ErrExist},
		"a file in a file":                   {files("a", "a/b"), api.ErrExist},
		"mode -1":                            {but(l, 1, func(f *api.File) { f.Mode = -1 }), api.ErrMode},
		"mode 512":                           {but(l, 2, func(f *api.File) { f.Mode = 512 }), api.ErrMode},
		"the least mode":                     {but(l, 0, func(f *api.File) { f.Mode = math.MinInt }), api.ErrMode},
		"the greatest mode":                  {but(l, 0, func(f *api.File) { f.Mode = math.MaxInt }), api.ErrMode},
		"too many bytes":                     {but(l, 1, func(f *api.File) { f.Data = tooLong }), api.ErrLong},
		"a wrong mode, then no path":         {[]api.File{{Path: "a", Mode: -1}, {}}, api.ErrPath},
		"too many bytes, then wrong order":   {[]api.File{{Path: "b", Data: tooLong}, {Path: "a"}}, api.ErrOrder},
		"a wrong mode, and full":             {but(full(image.Most+1), 7, func(f *api.File) { f.Mode = 512 }), api.ErrMode},
		"wrong order, and full":              {but(full(image.Most+1), 7, func(f *api.File) { f.Path = "0" }), api.ErrOrder},
		"a byte too many":                    {full(image.Most + 1), api.ErrLong},
		"too many bytes in all":              {slices.Concat(full(image.Most), files("x")), api.ErrLong},
		"too many bytes in all, of an empty": {slices.Concat(full(image.Most), []api.File{{Path: "x"}}), api.ErrLong},
		"Most bytes of the files alone":      {full(image.Most + 49), api.ErrLong},
	}
	most := many(api.MaxFiles)
	for i := range most {
		most[i].Data = times("x", api.MaxFile)
	}
	m["as many files as may be, of as many bytes"] = wrong{most, api.ErrLong}
	return m
}

// soon fails a test whose work takes longer than anybody waits.
func soon(t *testing.T, name string, work func()) {
	t.Helper()
	done := make(chan bool)
	go func() {
		work()
		close(done)
	}()
	select {
	case <-done:
	case <-time.After(20 * time.Second):
		t.Fatalf("%s: no end", name)
	}
}

// 10.1

func TestOfExamples(t *testing.T) {
	for _, c := range []struct {
		l    []api.File
		want string
	}{
		{nil, "\x00"},
		{[]api.File{{Path: "a", Data: "hi"}}, "\x01\x01\x61\x00\x02\x68\x69"},
		{[]api.File{{Path: "a/b", Mode: 0o644, Data: "x"}, {Path: "c", Mode: 1}, {Path: "d", Mode: 127, Data: "yz"}}, "\x03\x03a/b\xa4\x03\x01\x01c\x01\x00\x01d\x7f\x02xyz"},
		{[]api.File{{Path: "a", Mode: 0o777, Data: times("x", 300)}}, "\x01\x01a\xff\x03\xac\x02" + times("x", 300)},
	} {
		if got, e := image.Of(c.l); got != c.want || e != api.OK {
			t.Errorf("%v: %q, error %d, want %q", c.l, got, e, c.want)
		}
	}
	if image.Most != 524288 {
		t.Errorf("Most is %d", image.Most)
	}
}

func TestOf(t *testing.T) {
	for name, l := range rightTrees() {
		want := plainOf(l)
		if got, e := image.Of(l); got != want || e != api.OK {
			t.Errorf("%s: %d bytes, error %d, want %d bytes", name, len(got), e, len(want))
		}
		if got, e := image.Size(l); got != len(want) || e != api.OK {
			t.Errorf("%s: size %d, error %d, want %d", name, got, e, len(want))
		}
	}
	if n := len(plainOf(rightTrees()["as full as may be"])); n != image.Most {
		t.Errorf("what is to be full has %d bytes", n)
	}
}

func TestOfRefused(t *testing.T) {
	for name, c := range wrongTrees() {
		if got, e := image.Of(c.l); got != "" || e != c.want {
			t.Errorf("%s: %d bytes, error %d, want %d", name, len(got), e, c.want)
		}
		if got, e := image.Size(c.l); got != 0 || e != c.want {
			t.Errorf("%s: size %d, error %d, want %d", name, got, e, c.want)
		}
	}
}

// 10.2

func TestTree(t *testing.T) {
	for name, l := range rightTrees() {
		if got, e := image.Tree(plainOf(l)); !slices.Equal(got, l) || e != api.OK {
			t.Errorf("%s: %d files, error %d", name, len(got), e)
		}
	}
}

const (
	noNum = "\x80\x00"                             // is no number: there is a shorter one
	huge  = "\xff\xff\xff\xff\xff\xff\xff\xff\x7f" // is one of 63 bits
)

type wrongText struct {
	name, s string
	want    api.Errno
}

// wrongSayings are texts that are no images for what they tell of the files.
func wrongSayings() []wrongText {
	a := said("a", 0, 2)
	l := []wrongText{
		{"nothing", "", api.ErrShort},
		{"half a number of files", "\x80", api.ErrShort},
		{"the number of files is none", noNum + "x", api.ErrForm},
		{"the number of files is too great for a number", huge, api.ErrForm},
		{"257 files", nums(257), api.ErrLong},
		{"257 files, all there", plainOf(many(257)), api.ErrLong},
		{"as many files as can be said", nums(api.MaxNum), api.ErrLong},
		{"256 files, of which none is there", nums(256), api.ErrShort},
		{"256 files, of which one is there", nums(256) + a, api.ErrShort},

		{"no file", nums(1), api.ErrShort},
		{"no path's bytes", nums(1, 1), api.ErrShort},
		{"a path's byte less", nums(1, 2) + "a", api.ErrShort},
		{"no mode", nums(1, 1) + "a", api.ErrShort},
		{"no length", nums(1, 1) + "a" + nums(0), api.ErrShort},
		{"half a length", nums(1, 1) + "a" + nums(0) + "\x80", api.ErrShort},
		{"a file less", nums(2) + a, api.ErrShort},
		{"the path's length is no number", nums(1) + noNum + "a" + nums(0, 0), api.ErrForm},
		{"the mode is no number", nums(1, 1) + "a" + noNum + nums(0), api.ErrForm},
		{"the mode is too great for a number", nums(1, 1) + "a" + huge + nums(0), api.ErrForm},
		{"the length is no number", nums(1, 1) + "a" + nums(0) + noNum, api.ErrForm},
		{"a path of 201 bytes", nums(1) + said(long(201), 0, 0), api.ErrLong},
		{"a path of 201 bytes, of which none is there", nums(1, 201), api.ErrLong},
		{"a path as long as can be said", nums(1, api.MaxNum), api.ErrLong},
		{"65537 bytes", nums(1) + said("a", 0, api.MaxFile+1) + times("x", api.MaxFile+1), api.ErrLong},
		{"65537 bytes, of which none is there", nums(1) + said("a", 0, api.MaxFile+1), api.ErrLong},
		{"as many bytes as can be said", nums(1) + said("a", 0, api.MaxNum), api.ErrLong},

		// From the left, all that is told ahead of what may not be.
		{"a path of 201 bytes, then no number", nums(2) + said(long(201), 0, 0) + noNum, api.ErrLong},
		{"no number, then a path of 201 bytes", nums(2, 1) + "a" + noNum + nums(0) + said(long(201), 0, 0), api.ErrForm},
		{"no path ahead of one that lacks", nums(2) + said("", 0, 0), api.ErrShort},
		{"no path ahead of 65537 bytes", nums(2) + said("", 0, 0) + said("b", 0, api.MaxFile+1), api.ErrLong},
		{"a wrong mode, and no length", nums(1, 1) + "a" + nums(512), api.ErrShort},
		{"a wrong mode, and 65537 bytes", nums(1) + said("a", 512, api.MaxFile+1), api.ErrLong},
		{"a wrong mode ahead of no number", nums(2) + said("a", 512, 0) + noNum, api.ErrForm},
		{"wrong order ahead of one that lacks", nums(3) + said("b", 0, 0) + said("a", 0, 0), api.ErrShort},

		// What is told may not be.
		{"no path", nums(1) + said("", 0, 0), api.ErrPath},
		{"a path with a slash behind it", nums(1) + said("a/", 0, 0), api.ErrPath},
		{"a path of any bytes", nums(1) + said("\xff", 0, 0), api.ErrPath},
		{"a name of 33 bytes", nums(1) + said(times("x", 33), 0, 0), api.ErrPath},
		{"wrong order", nums(2) + said("b", 0, 0) + said("a", 0, 0), api.ErrOrder},
		{"byte by byte, but not name by name", nums(2) + said("a-b", 0, 0) + said("a/b", 0, 0), api.ErrOrder},
		{"twice", nums(2) + said("a", 0, 0) + said("a", 0, 0), api.ErrExist},
		{"a file in a file", nums(2) + said("a", 0, 0) + said("a/b", 0, 0), api.ErrExist},
		{"mode 512", nums(1) + said("a", 512, 0), api.ErrMode},
		{"the greatest mode", nums(1) + said("a", api.MaxNum, 0), api.ErrMode},
		{"a wrong mode, then wrong order", nums(2) + said("b", 512, 0) + said("a", 0, 0), api.ErrOrder},
		{"a wrong mode, then no path", nums(2) + said("b", 512, 0) + said("b//", 0, 0), api.ErrPath},

		// Ahead of the bytes.
		{"no path, and bytes lack", nums(1) + said("", 0, 2) + "x", api.ErrPath},
		{"wrong order, and bytes lack", nums(2) + said("b", 0, 2) + said("a", 0, 0), api.ErrOrder},
		{"a wrong mode, and bytes lack", nums(1) + said("a", 512, 2) + "x", api.ErrMode},
	}
	for _, c := range l[slices.IndexFunc(l, func(c wrongText) bool { return c.name == "no path" }):] {
		l = append(l, wrongText{c.name + ", and bytes are left", c.s + times("x", 9), c.want})
	}
	return l
}

func TestTreeRefused(t *testing.T) {
	for _, c := range append(wrongSayings(), []wrongText{
		{"no bytes", nums(1) + said("a", 0, 1), api.ErrShort},
		{"a byte less", nums(1) + said("a", 0, 3) + "xy", api.ErrShort},
		{"the last byte less", nums(3) + said("a", 0, 2) + said("b", 0, 0) + said("c", 0, 1) + "xy", api.ErrShort},
		{"bytes of the first less", nums(3) + said("a", 0, 2) + said("b", 0, 0) + said("c", 0, 0) + "x", api.ErrShort},
		{"a byte behind none", nums(0, 0), api.ErrLong},
		{"a byte behind an empty one", nums(1) + said("a", 0, 0) + "x", api.ErrLong},
		{"a byte more", nums(1) + said("a", 0, 2) + "xyz", api.ErrLong},
		{"a file more than told", nums(1) + said("a", 0, 0) + said("b", 0, 0), api.ErrLong},

		// Longer than Most comes ahead of all.
		{"a byte too many", plainOf(full(image.Most + 1)), api.ErrLong},
		{"too long, and no number", noNum + times("x", image.Most), api.ErrLong},
		{"too long, and no path", nums(1) + said("", 0, 0) + times("x", image.Most), api.ErrLong},
		{"too long, and a wrong mode", nums(1) + said("a", 512, 0) + times("x", image.Most), api.ErrLong},
		{"too long, of zeros", times("\x00", image.Most+1), api.ErrLong},
		{"too long by much", times("\x80", 4*image.Most), api.ErrLong},
		// As long as may be is read.
		{"Most bytes, of no number", noNum + times("x", image.Most-2), api.ErrForm},
		{"Most bytes, of no path", nums(1) + said("", 0, 0) + times("x", image.Most-4), api.ErrPath},
		{"Most bytes, and one lacks", plainOf(full(image.Most + 1))[:image.Most], api.ErrShort},
	}...) {
		if got, e := image.Tree(c.s); len(got) != 0 || e != c.want {
			t.Errorf("%s: %v, error %d, want %d", c.name, got, e, c.want)
		}
	}
}

// 10.3

func TestPlace(t *testing.T) {
	for name, l := range rightTrees() {
		s := plainOf(l)
		at := len(s)
		for _, f := range l {
			at -= len(f.Data)
		}
		for i, f := range l {
			for _, text := range []string{s, s + "\x00", s + times("x", image.Most)} {
				from, n, e := image.Place(text, f.Path)
				if from != at || n != len(f.Data) || e != api.OK {
					t.Errorf("%s, file %d: %d bytes at %d, error %d, want %d at %d", name, i, n, from, e, len(f.Data), at)
				}
			}
			// All bytes that come behind may lack, of which its own may not.
			if from, n, e := image.Place(s[:at+len(f.Data)], f.Path); from != at || n != len(f.Data) || e != api.OK {
				t.Errorf("%s, file %d, cut behind it: %d bytes at %d, error %d", name, i, n, from, e)
			}
			at += len(f.Data)
		}
	}
}

func TestPlaceRefused(t *testing.T) {
	for _, c := range wrongSayings() {
		for _, path := range []string{"a", "b", "", "a/b"} {
			if at, n, e := image.Place(c.s, path); at != 0 || n != 0 || e != c.want {
				t.Errorf("%s, path %q: %d bytes at %d, error %d, want %d", c.name, path, n, at, e, c.want)
			}
		}
	}
	told := nums(4) + said("a", 0, 2) + said("b", 0, 0) + said("c/d", 0, 3) + said("e", 0, 0)
	for _, c := range []struct {
		bytes, path string
		want        api.Errno
	}{
		{"", "a", api.ErrShort}, {"x", "a", api.ErrShort}, {"xy", "a", api.OK},
		// Of no bytes, and even these begin behind the end.
		{"", "b", api.ErrShort}, {"x", "b", api.ErrShort}, {"xy", "b", api.OK},
		{"xy", "c/d", api.ErrShort}, {"xyzz", "c/d", api.ErrShort}, {"xyzzz", "c/d", api.OK},
		{"", "e", api.ErrShort}, {"xyzz", "e", api.ErrShort}, {"xyzzz", "e", api.OK}, {"xyzzz ..", "e", api.OK},
		// What is not there is not there, whatever bytes are.
		{"", "d", api.ErrNone}, {"xyzzz", "d", api.ErrNone}, {"", "c", api.ErrNone}, {"xyzzz", "c", api.ErrNone}, {"xyzzz ..", "c/", api.ErrNone},
		{"xyzzz", "", api.ErrNone}, {"xyzzz", "a/..", api.ErrNone}, {"xyzzz", "a ", api.ErrNone}, {"xyzzz", "A", api.ErrNone}, {"xyzzz", long(300), api.ErrNone}, {"xyzzz", "\xff", api.ErrNone},
	} {
		at, n, e := image.Place(told+c.bytes, c.path)
		if e != c.want || e != api.OK && (at != 0 || n != 0) {
			t.Errorf("%q, path %q: %d bytes at %d, error %d, want %d", c.bytes, c.path, n, at, e, c.want)
		}
	}
	if at, n, e := image.Place("\x00", "a"); at != 0 || n != 0 || e != api.ErrNone {
		t.Errorf("nothing: %d bytes at %d, error %d", n, at, e)
	}
	// Longer than Most.
	if at, n, e := image.Place(plainOf(many(3))+times("x", 2*image.Most), "g"); at != 0 || n != 0 || e != api.ErrNone {
		t.Errorf("too long: %d bytes at %d, error %d", n, at, e)
	}
	l := full(image.Most)
	l = append(l, api.File{Path: "8", Mode: 1, Data: times("8", api.MaxFile)})
	s := plainOf(l)
	if at, n, e := image.Place(s, "8"); at != len(s)-api.MaxFile || n != api.MaxFile || e != api.OK {
		t.Errorf("too long: %d bytes at %d, error %d", n, at, e)
	}
	if at, n, e := image.Place(s[:len(s)-1], "8"); at != 0 || n != 0 || e != api.ErrShort {
		t.Errorf("too long, and a byte lacks: %d bytes at %d, error %d", n, at, e)
	}
}

// 10.4

// notImages are some texts that Tree refuses, and why.
func notImages(t *testing.T) (l []wrongText) {
	l = append(wrongSayings(), []wrongText{
		{"a byte less", nums(1) + said("a", 0, 3) + "xy", api.ErrShort},
		{"a byte more", nums(1) + said("a", 0, 2) + "xyz", api.ErrLong},
		{"a byte too many", plainOf(full(image.Most + 1)), api.ErrLong},
		{"too long, and no path", nums(1) + said("", 0, 0) + times("x", image.Most), api.ErrLong},
	}...)
	for _, c := range l {
		if _, e := image.Tree(c.s); e != c.want {
			t.Fatalf("%s: error %d, want %d", c.name, e, c.want)
		}
	}
	return l
}

func TestPut(t *testing.T) {
	l := files("a/b", "a-b", "c")
	for _, f := range []api.File{
		{Path: "!", Mode: 1, Data: "first"}, {Path: "a/a"}, {Path: "a/c", Data: "x"}, {Path: "a-a"}, {Path: "a.", Mode: 511}, {Path: "b", Data: "y"}, {Path: "d", Data: times("z", api.MaxFile)}, {Path: long(200), Data: "long"},
		{Path: "a/b"}, {Path: "a/b", Mode: 2, Data: "others"}, {Path: "a-b", Data: times("x", api.MaxFile)}, {Path: "c", Mode: 0o644, Data: "in c"}, {Path: "c", Mode: 0o640, Data: "in c"},
	} {
		want := plainOf(tree.Sort(append(slices.DeleteFunc(slices.Clone(l), func(g api.File) bool { return g.Path == f.Path }), f)))
		if got, e := image.Put(plainOf(l), f); got != want || e != api.OK {
			t.Errorf("%q: %q, error %d, want %q", f.Path, got, e, want)
		}
	}
	f := api.File{Path: "a", Data: "hi"}
	if got, e := image.Put("\x00", f); got != plainOf([]api.File{f}) || e != api.OK {
		t.Errorf("into nothing: %q, error %d", got, e)
	}
	// As many files as may be, of which one is another; and the last that may be.
	most := many(api.MaxFiles)
	other := api.File{Path: most[100].Path, Mode: 7, Data: "another"}
	if got, e := image.Put(plainOf(most), other); got != plainOf(but(most, 100, func(f *api.File) { *f = other })) || e != api.OK {
		t.Errorf("into 256: %d bytes, error %d", len(got), e)
	}
	if got, e := image.Put(plainOf(most[1:]), most[0]); got != plainOf(most) || e != api.OK {
		t.Errorf("into 255: %d bytes, error %d", len(got), e)
	}
	// Just full.
	all := full(image.Most)
	less := but(all, 3, func(f *api.File) { f.Data = "" })
	if got, e := image.Put(plainOf(less), all[3]); got != plainOf(all) || e != api.OK {
		t.Errorf("full: %d bytes, error %d", len(got), e)
	}
}

func TestPutRefused(t *testing.T) {
	for _, c := range notImages(t) {
		for _, f := range []api.File{file("a"), file(""), {Path: "a", Mode: -1}} {
			if got, e := image.Put(c.s, f); got != "" || e != c.want {
				t.Errorf("%s: %q, error %d, want %d", c.name, got, e, c.want)
			}
		}
	}
	l := files("a/b", "c")
	tooLong := times("x", api.MaxFile+1)
	for name, c := range map[string]struct {
		l    []api.File
		f    api.File
		want api.Errno
	}{
		"no path":                      {l, file(""), api.ErrPath},
		"a path with a slash":          {l, file("a/b/"), api.ErrPath},
		"no path, and a wrong mode":    {l, api.File{Path: "/", Mode: -1, Data: tooLong}, api.ErrPath},
		"a path of 201 bytes":          {l, file(long(201)), api.ErrLong},
		"a path that a file lies in":   {l, file("a"), api.ErrExist},
		"in a file":                    {l, file("c/d"), api.ErrExist},
		"deep in a file":               {l, file("a/b/c/d"), api.ErrExist},
		"in a file, and a wrong mode":  {l, api.File{Path: "c/d", Mode: -1}, api.ErrExist},
		"mode -1":                      {l, api.File{Path: "b", Mode: -1}, api.ErrMode},
		"mode 512":                     {l, api.File{Path: "c", Mode: 512}, api.ErrMode},
		"too many bytes":               {l, api.File{Path: "b", Data: tooLong}, api.ErrLong},
		"too many bytes of one there":  {l, api.File{Path: "c", Data: tooLong}, api.ErrLong},
		"a wrong mode, too many bytes": {l, api.File{Path: "c", Mode: 512, Data: tooLong}, api.ErrMode},
		"too many files":               {many(256), file("z"), api.ErrFull},
		"too many files, and no path":  {many(256), file(""), api.ErrFull},
		"256 files, and a wrong mode":  {many(256), api.File{Path: "f10000", Mode: -1}, api.ErrMode},
		"full, and a file more":        {full(image.Most), api.File{Path: "x"}, api.ErrLong},
		"full, and a byte more":        {full(image.Most), api.File{Path: "7", Data: full(image.Most + 1)[7].Data}, api.ErrLong},
		"full, and a wrong mode":       {full(image.Most), api.File{Path: "x", Mode: -1}, api.ErrMode},
	} {
		if got, e := image.Put(plainOf(c.l), c.f); got != "" || e != c.want {
			t.Errorf("%s: %d bytes, error %d, want %d", name, len(got), e, c.want)
		}
	}
}

func TestDrop(t *testing.T) {
	l := files("!", "a/b/c", "a/b/d", "a/b-c", "a/c", "a-b", "b")
	without := func(at ...int) (some []api.File) {
		for i, f := range l {
			if !slices.Contains(at, i) {
				some = append(some, f)
			}
		}
		return some
	}
	for path, want := range map[string][]api.File{
		"!": without(0), "a/b/c": without(1), "a/b": without(1, 2), "a": without(1, 2, 3, 4), "a/b-c": without(3), "a/c": without(4), "a-b": without(5), "b": without(6),
	} {
		if got, e := image.Drop(plainOf(l), path); got != plainOf(want) || e != api.OK {
			t.Errorf("%s: %q, error %d, want %q", path, got, e, plainOf(want))
		}
	}
	for _, path := range []string{"a", "a/b"} {
		if got, e := image.Drop(plainOf(files("a/b")), path); got != "\x00" || e != api.OK {
			t.Errorf("%s, the last: %q, error %d", path, got, e)
		}
	}
	all := full(image.Most)
	if got, e := image.Drop(plainOf(all), "5"); got != plainOf(slices.Delete(all, 5, 6)) || e != api.OK {
		t.Errorf("of a full one: %d bytes, error %d", len(got), e)
	}
}

func TestDropRefused(t *testing.T) {
	for _, c := range notImages(t) {
		for _, path := range []string{"a", "", "zz"} {
			if got, e := image.Drop(c.s, path); got != "" || e != c.want {
				t.Errorf("%s, path %q: %q, error %d, want %d", c.name, path, got, e, c.want)
			}
		}
	}
	s := plainOf(files("a/b/c", "a/b-", "b"))
	for _, path := range []string{"", "/", "a/", "a/b/", "/a", "a/b/c/d", "a/b/d", "b/c", "A", "c", "a-", "a/b-/", ".", "..", "*", "\xff", "\x00", long(201)} {
		if got, e := image.Drop(s, path); got != "" || e != api.ErrNone {
			t.Errorf("path %q: %q, error %d", path, got, e)
		}
	}
	if got, e := image.Drop("\x00", "a"); got != "" || e != api.ErrNone {
		t.Errorf("of nothing: %q, error %d", got, e)
	}
}

// 10.6 (of Merge, see merge_test.go)

// What was made is read again; whatever is read has just that image: cut bytes, one more, and those of a byte that is another are refused, or are another tree's.
func TestTreeOfOf(t *testing.T) {
	chance := rand.New(rand.NewSource(106))
	told := map[api.Errno]int{}
	for round := range 2000 {
		l := someTree(chance)
		s, e := image.Of(l)
		if n, f := image.Size(l); s != plainOf(l) || n != len(s) || e != api.OK || f != api.OK {
			t.Fatalf("round %d: %q of %d bytes, errors %d and %d", round, s, n, e, f)
		}
		if got, e := image.Tree(s); !slices.Equal(got, l) || e != api.OK {
			t.Fatalf("round %d: %v, error %d, want %v", round, got, e, l)
		}
		for n := range len(s) {
			if got, e := image.Tree(s[:n]); len(got) != 0 || e != api.ErrShort {
				t.Fatalf("round %d, %d of %d bytes: %v, error %d", round, n, len(s), got, e)
			}
		}
		if got, e := image.Tree(s + "\x00"); len(got) != 0 || e != api.ErrLong {
			t.Fatalf("round %d, a byte more: %v, error %d", round, got, e)
		}
		for i := range len(s) {
			bent := []byte(s)
			bent[i] = byte(chance.Intn(256) >> (chance.Intn(2) * 5))
			got, e := image.Tree(string(bent))
			told[e]++
			if e != api.OK {
				if len(got) != 0 {
					t.Fatalf("round %d, byte %d: error %d beside %v", round, i, e, got)
				}
				continue
			}
			if again, e := image.Of(got); again != string(bent) || e != api.OK {
				t.Fatalf("round %d, byte %d: %v, error %d", round, i, got, e)
			}
			for _, f := range got {
				if at, n, e := image.Place(string(bent), f.Path); e != api.OK || string(bent[at:at+n]) != f.Data {
					t.Fatalf("round %d, byte %d: %d bytes at %d, error %d", round, i, n, at, e)
				}
			}
		}
	}
	for _, e := range []api.Errno{api.OK, api.ErrShort, api.ErrLong, api.ErrForm, api.ErrPath, api.ErrMode, api.ErrOrder, api.ErrExist} {
		if told[e] < 10 {
			t.Errorf("error %d came %d times alone", e, told[e])
		}
	}
}

// What is answered shares no memory with what was handed in, and that stays as it is, behind the lists' ends too (R3).
func TestMemory(t *testing.T) {
	memory := []byte("a/bcxyz")
	text := func(from, to int) string { return unsafe.String(&memory[from], to-from) }
	room := []api.File{{Path: text(0, 3), Data: text(4, 5)}, {Path: text(3, 4), Mode: 1, Data: text(5, 7)}, {Path: "behind"}}
	before := slices.Clone(room)
	s, e := image.Of(room[:2])
	put, f := image.Put("\x00", room[1])
	if !slices.Equal(room, before) || string(memory) != "a/bcxyz" || e != api.OK || f != api.OK {
		t.Errorf("Of: what was handed in is %v, errors %d and %d", room, e, f)
	}
	clear(memory)
	want := []api.File{{Path: "a/b", Data: "x"}, {Path: "c", Mode: 1, Data: "yz"}}
	if s != plainOf(want) || put != plainOf(want[1:]) {
		t.Errorf("Of: %q and %q", s, put)
	}

	s = plainOf(want)
	memory = []byte(s)
	l, e := image.Tree(text(0, len(s)))
	dropped, f := image.Drop(text(0, len(s)), "c")
	if string(memory) != s || e != api.OK || f != api.OK {
		t.Errorf("Tree: what was handed in is %q, errors %d and %d", memory, e, f)
	}
	clear(memory)
	if !slices.Equal(l, want) || dropped != plainOf(want[:1]) {
		t.Errorf("Tree: %v and %q", l, dropped)
	}
}

// All calls end, and none panics, at any arguments (P1).
func TestAnyArguments(t *testing.T) {
	chance := rand.New(rand.NewSource(10))
	text := func() string {
		switch chance.Intn(4) {
		case 0:
			s := []byte(plainOf(someTree(chance)))
			s[chance.Intn(len(s))] = byte(chance.Intn(256))
			return string(s)
		case 1:
			return plainOf(someTree(chance))
		case 2:
			return times([]string{"\x00", "\x01", "\x80", "\xff", "a", "/"}[chance.Intn(6)], chance.Intn(120))
		}
		b := make([]byte, chance.Intn(12))
		chance.Read(b)
		return string(b)
	}
	soon(t, "any arguments", func() {
		for range 20000 {
			var l []api.File
			for range chance.Intn(4) {
				l = append(l, api.File{Path: text(), Mode: chance.Intn(600) - 40, Data: text()})
			}
			image.Of(l)
			image.Size(l)
			image.Tree(text())
			image.Place(text(), text())
			image.Put(text(), api.File{Path: text(), Mode: chance.Intn(600) - 40, Data: text()})
			image.Drop(text(), text())
			image.Merge(text(), text(), text())
		}
		// An image of all that can be said, of no bytes.
		s := nums(256)
		for i := range 256 {
			s += said(strconv.Itoa(1000+i), 511, api.MaxFile)
		}
		if at, n, e := image.Place(s, "1255"); at != 0 || n != 0 || e != api.ErrShort {
			t.Errorf("%d bytes at %d, error %d", n, at, e)
		}
		if l, e := image.Tree(s); len(l) != 0 || e != api.ErrShort {
			t.Errorf("%d files, error %d", len(l), e)
		}
	})
}
