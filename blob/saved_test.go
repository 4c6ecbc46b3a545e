package blob_test

import (
	"encoding/binary"
	"math"
	"math/rand"
	"slices"
	"strconv"
	"testing"

	"barque/api"
	"barque/blob"
	"barque/marks"
	"barque/tree"
)

// file is a file of a path, with bytes that tell of it.
func file(path string) api.File { return api.File{Path: path, Mode: 0o644, Data: "in " + path} }

// save saves a tree: its root.
func save(t *testing.T, b *blob.Blobs, l ...api.File) string {
	t.Helper()
	root, e := b.Save(l)
	if e != api.OK {
		t.Fatalf("Save of %d files: error %d", len(l), e)
	}
	return root
}

// forget forgets roots.
func forget(t *testing.T, b *blob.Blobs, l ...string) {
	t.Helper()
	for _, root := range l {
		if e := b.Forget(root); e != api.OK {
			t.Fatalf("Forget of %x: error %d", root, e)
		}
	}
}

// loads asks what tree a mark has.
func loads(t *testing.T, b *blob.Blobs, mark string, want []api.File) {
	t.Helper()
	if l, e := b.Load(mark); !slices.Equal(l, want) || e != api.OK {
		t.Errorf("Load of %x: %d files, error %d, want %d", mark, len(l), e, len(want))
	}
}

// fails asks what error Load tells of a mark.
func fails(t *testing.T, b *blob.Blobs, mark string, want api.Errno) {
	t.Helper()
	if l, e := b.Load(mark); len(l) != 0 || e != want {
		t.Errorf("Load of %x: %d files, error %d, want %d", mark, len(l), e, want)
	}
}

// roots asks for the roots.
func roots(t *testing.T, b *blob.Blobs, want ...string) {
	t.Helper()
	if l := b.Roots(); !slices.Equal(l, want) {
		t.Errorf("roots %x, want %x", l, want)
	}
}

// checks asks what Check tells.
func checks(t *testing.T, b *blob.Blobs, want bool) {
	t.Helper()
	if b.Check() != want {
		t.Errorf("Check: %v", !want)
	}
}

// nums are numbers' bytes, one behind the other.
func nums(l ...int) string {
	var b []byte
	for _, n := range l {
		b = binary.AppendUvarint(b, uint64(n))
	}
	return string(b)
}

// said is a manifest's bytes as the document tells them, of paths of which no two begin alike.
func said(l ...api.Item) string {
	s := nums(len(l))
	for _, x := range l {
		s += nums(0, len(x.Path)) + x.Path + nums(x.Mode, x.Size) + x.Mark
	}
	return s
}

// item is what a manifest by the real book says of a file.
func item(f api.File) api.Item {
	return api.Item{Path: f.Path, Mode: f.Mode, Size: len(f.Data), Mark: strong(f.Data)}
}

// manifest is a tree's manifest by the real book, as bytes.
func manifest(t *testing.T, l []api.File) string {
	t.Helper()
	var items []api.Item
	for _, f := range l {
		items = append(items, item(f))
	}
	s, e := tree.Bytes(items)
	if e != api.OK {
		t.Fatalf("a manifest of %d files: error %d", len(l), e)
	}
	return s
}

// long is a path of 200 bytes, which begins with a number.
func long(i int) string {
	return strconv.Itoa(1000+i) + times("x", 28) + times("/"+times("y", 32), 5) + "/zz"
}

// rightTrees are trees that may be.
func rightTrees() map[string][]api.File {
	var many, longest []api.File
	for i := range api.MaxFiles {
		many = append(many, file(strconv.Itoa(1000+i)))
		longest = append(longest, api.File{Path: long(i), Mode: api.MaxMode, Data: times("x", api.MaxFile)})
	}
	return map[string][]api.File{
		"none":            nil,
		"one, empty":      {{Path: "a"}},
		"one":             {file("a")},
		"of the same":     {{Path: "a", Data: "same"}, {Path: "b", Mode: 7, Data: "same"}, {Path: "c"}, {Path: "d", Data: "same"}},
		"in order":        {file("!"), file("a/b"), file("a/c"), file("a-b"), file("b")},
		"as long":         {{Path: "a", Data: times("x", api.MaxFile)}, {Path: "b", Data: times("y", api.MaxFile)}},
		"as many":         many,
		"all at the edge": longest,
	}
}

// 11.2

// The document's example.
func TestExample(t *testing.T) {
	book := marks.Real()
	b := blob.New(book)
	l := []api.File{{Path: "a", Data: "same"}, {Path: "b", Mode: 1, Data: "same"}}
	root := save(t, b, l...)
	manifest := said(item(l[0]), item(l[1]))
	if root != strong(manifest) {
		t.Errorf("the root is %x", root)
	}
	kept(t, b, strong("same"), "same", 2)
	kept(t, b, root, manifest, 1)
	holds(t, b, 2, len(manifest)+4)
	roots(t, b, root)
	loads(t, b, root, l)
}

func TestSave(t *testing.T) {
	for bookName, book := range books() {
		for name, l := range rightTrees() {
			t.Run(bookName+", "+name, func(t *testing.T) {
				b := blob.New(book)
				root := save(t, b, l...)
				items, _ := tree.Items(book, l)
				manifest, _ := tree.Bytes(items)
				if root != book.Mark(manifest) {
					t.Errorf("the root is %x", root)
				}
				refs := map[string]int{manifest: 1}
				for _, f := range l {
					refs[f.Data]++
				}
				bytes := 0
				for s, n := range refs {
					kept(t, b, book.Mark(s), s, n)
					bytes += len(s)
				}
				holds(t, b, len(refs), bytes)
				roots(t, b, root)
				checks(t, b, true)
				loads(t, b, root, l)
				forget(t, b, root)
				holds(t, b, 0, 0)
				fails(t, b, root, api.ErrNone)
			})
		}
	}
}

// The files' bytes come ahead of the manifest's: an ideal book numbers them so.
func TestSaveOrder(t *testing.T) {
	b := blob.New(marks.Ideal())
	l := []api.File{{Path: "a", Data: "z"}, {Path: "b"}, {Path: "c", Data: "z"}, {Path: "d", Data: "y"}}
	if root := save(t, b, l...); root != numbered(4) {
		t.Errorf("the root is %x", root)
	}
	for i, s := range []string{"z", "", "y"} {
		kept(t, b, numbered(i+1), s, []int{2, 1, 1}[i])
	}
}

// Of a tree that may not be nothing is kept, and nothing is marked.
func TestSaveRefused(t *testing.T) {
	var many []api.File
	for i := range api.MaxFiles + 1 {
		many = append(many, file(strconv.Itoa(1000+i)))
	}
	tooLong := api.File{Path: "b", Data: times("x", api.MaxFile+1)}
	book := marks.Ideal()
	b := blob.New(book)
	root := save(t, b, file("a"))
	for name, c := range map[string]struct {
		l    []api.File
		want api.Errno
	}{
		"too many":                 {many, api.ErrFull},
		"no path":                  {[]api.File{file("a"), file("")}, api.ErrPath},
		"a path too long":          {[]api.File{file("a"), file(long(0) + "z")}, api.ErrLong},
		"not in order":             {[]api.File{file("b"), file("a")}, api.ErrOrder},
		"twice":                    {[]api.File{file("b"), file("b")}, api.ErrExist},
		"one in the other":         {[]api.File{file("b"), file("b/c")}, api.ErrExist},
		"mode -1":                  {[]api.File{file("a"), {Path: "b", Mode: -1}}, api.ErrMode},
		"mode 512":                 {[]api.File{file("a"), {Path: "b", Mode: 512}}, api.ErrMode},
		"the greatest mode":        {[]api.File{file("a"), {Path: "b", Mode: math.MaxInt}}, api.ErrMode},
		"a file too long":          {[]api.File{file("a"), tooLong}, api.ErrLong},
		"too long, then no path":   {[]api.File{tooLong, file("c/")}, api.ErrPath},
		"too long, of a wrong one": {[]api.File{{Path: "b", Mode: -1, Data: tooLong.Data}}, api.ErrMode},
	} {
		if got, e := b.Save(c.l); got != "" || e != c.want {
			t.Errorf("%s: %x, error %d, want %d", name, got, e, c.want)
		}
	}
	holds(t, b, 2, 4+len(said(item(file("a")))))
	roots(t, b, root)
	if mark := book.Mark("other"); mark != numbered(3) {
		t.Errorf("something was marked: %x", mark)
	}
}

// Each time that a tree is saved leads once more to all of it.
func TestSaveTwice(t *testing.T) {
	for name, book := range books() {
		t.Run(name, func(t *testing.T) {
			b := blob.New(book)
			l := []api.File{{Path: "a", Data: "same"}, {Path: "b", Data: "same"}, {Path: "c", Data: "other"}}
			root := save(t, b, l...)
			if again := save(t, b, l...); again != root {
				t.Errorf("roots %x and %x", root, again)
			}
			same, other := book.Mark("same"), book.Mark("other")
			kept(t, b, same, "same", 4)
			kept(t, b, other, "other", 2)
			if b.Refs(root) != 2 || b.Count() != 3 {
				t.Errorf("to the root %d lead, of %d texts", b.Refs(root), b.Count())
			}
			roots(t, b, root, root)
			forget(t, b, root)
			kept(t, b, same, "same", 2)
			kept(t, b, other, "other", 1)
			roots(t, b, root)
			loads(t, b, root, l)
			forget(t, b, root)
			roots(t, b)
			holds(t, b, 0, 0)
			if e := b.Forget(root); e != api.ErrNone {
				t.Errorf("a third time: error %d", e)
			}
		})
	}
}

// What one tree leaves, another one has still.
func TestForget(t *testing.T) {
	b := blob.New(marks.Real())
	one := []api.File{file("a"), file("b")}
	two := []api.File{file("b"), file("c")}
	x, y := save(t, b, one...), save(t, b, two...)
	kept(t, b, strong("in b"), "in b", 2)
	put(t, b, "in a")
	forget(t, b, x)
	kept(t, b, strong("in a"), "in a", 1)
	kept(t, b, strong("in b"), "in b", 1)
	fails(t, b, x, api.ErrNone)
	loads(t, b, y, two)
	roots(t, b, y)
	forget(t, b, y)
	holds(t, b, 1, 4)
}

// One that is forgotten goes where it came first.
func TestRoots(t *testing.T) {
	b := blob.New(marks.Ideal())
	roots(t, b)
	x, y, z := save(t, b, file("x")), save(t, b, file("y")), save(t, b)
	save(t, b, file("x"))
	save(t, b, file("y"))
	save(t, b, file("x"))
	roots(t, b, x, y, z, x, y, x)
	forget(t, b, y)
	roots(t, b, x, z, x, y, x)
	forget(t, b, x)
	roots(t, b, z, x, y, x)
	forget(t, b, x)
	roots(t, b, z, y, x)
	forget(t, b, z)
	roots(t, b, y, x)
	save(t, b)
	roots(t, b, y, x, z)
	forget(t, b, y, x, z)
	roots(t, b)
	holds(t, b, 0, 0)
}

// What Roots told is the caller's.
func TestRootsTold(t *testing.T) {
	b := blob.New(marks.Ideal())
	x, y := save(t, b, file("x")), save(t, b, file("y"))
	l := b.Roots()
	clear(l)
	roots(t, b, x, y)
	l = b.Roots()
	forget(t, b, x)
	if !slices.Equal(l, []string{x, y}) {
		t.Errorf("what was told is %x now", l)
	}
}

// What is no root is not forgotten, though it is kept.
func TestForgetNone(t *testing.T) {
	b := blob.New(marks.Real())
	f := file("a")
	manifest := said(item(f))
	mark := put(t, b, manifest, f.Data, "text")[0]
	loads(t, b, mark, []api.File{f})
	for _, m := range []string{"", mark, strong(f.Data), strong("text"), strong("other"), numbered(1), mark[:31], mark + "\x00"} {
		if e := b.Forget(m); e != api.ErrNone {
			t.Errorf("%x: error %d", m, e)
		}
	}
	kept(t, b, mark, manifest, 1)
	kept(t, b, strong(f.Data), f.Data, 1)
	roots(t, b)
	// Once it is saved, it is forgotten, and is there as it was.
	if root := save(t, b, f); root != mark {
		t.Errorf("the root is %x", root)
	}
	forget(t, b, mark)
	kept(t, b, mark, manifest, 1)
	kept(t, b, strong(f.Data), f.Data, 1)
}

// A root whose manifest was dropped can't be forgotten, till that is there again.
func TestForgetDropped(t *testing.T) {
	b := blob.New(marks.Real())
	f := file("a")
	root := save(t, b, f)
	drop(t, b, root)
	if e := b.Forget(root); e != api.ErrNone {
		t.Errorf("error %d", e)
	}
	roots(t, b, root)
	kept(t, b, strong(f.Data), f.Data, 1)
	checks(t, b, false)
	unpacks(t, b, framed(said(item(f))), 1, 1)
	loads(t, b, root, []api.File{f})
	checks(t, b, true)
	forget(t, b, root)
	roots(t, b)
	holds(t, b, 0, 0)
}

// A file whose text was dropped hinders no forgetting.
func TestForgetFileDropped(t *testing.T) {
	b := blob.New(marks.Real())
	l := []api.File{{Path: "a", Data: "same"}, {Path: "b", Data: "other"}, {Path: "c", Data: "same"}, {Path: "d", Data: "last"}}
	root := save(t, b, l...)
	drop(t, b, strong("same"), strong("same"))
	fails(t, b, root, api.ErrNone)
	forget(t, b, root)
	roots(t, b)
	holds(t, b, 0, 0)
	// One of two is left.
	root = save(t, b, l...)
	drop(t, b, strong("same"))
	loads(t, b, root, l)
	forget(t, b, root)
	holds(t, b, 0, 0)
}

// Any text is loaded that is a manifest; of others it is told what Of tells.
func TestLoadErrors(t *testing.T) {
	book := marks.Real()
	b := blob.New(book)
	f, g := api.File{Path: "a", Mode: 1, Data: "first"}, api.File{Path: "b", Mode: 2, Data: "second"}
	put(t, b, f.Data, g.Data)
	x, y := item(f), item(g)
	sized := func(x api.Item, size int) api.Item { x.Size = size; return x }
	marked := func(x api.Item, mark string) api.Item { x.Mark = mark; return x }
	moded := func(x api.Item, mode int) api.Item { x.Mode = mode; return x }
	for name, c := range map[string]struct {
		s    string
		want api.Errno
	}{
		"right":                            {said(x, y), api.OK},
		"no bytes":                         {"", api.ErrShort},
		"cut":                              {said(x, y)[:len(said(x, y))-1], api.ErrShort},
		"bytes are left":                   {said(x, y) + "\x00", api.ErrLong},
		"too many":                         {nums(api.MaxFiles+1) + said(x)[1:], api.ErrLong},
		"no number":                        {"\x80\x00", api.ErrForm},
		"no path":                          {said(api.Item{Path: "..", Size: 5, Mark: x.Mark}), api.ErrPath},
		"not in order":                     {said(y, x), api.ErrOrder},
		"a mode that may not be":           {said(x, moded(y, 512)), api.ErrMode},
		"a size that may not be":           {said(x, sized(y, api.MaxFile+1)), api.ErrLong},
		"the first lacks":                  {said(marked(x, strong("other")), y), api.ErrNone},
		"the second lacks":                 {said(x, marked(y, strong("other"))), api.ErrNone},
		"the first is longer":              {said(sized(x, 4), y), api.ErrDamage},
		"the first is shorter":             {said(sized(x, 6), y), api.ErrDamage},
		"the second is longer":             {said(x, sized(y, 0)), api.ErrDamage},
		"the second is shorter":            {said(x, sized(y, api.MaxFile)), api.ErrDamage},
		"another's mark":                   {said(x, marked(y, x.Mark)), api.ErrDamage},
		"one lacks, another length":        {said(x, sized(marked(y, strong("other")), 1)), api.ErrNone},
		"the first lacks, then longer":     {said(marked(x, strong("other")), sized(y, 1)), api.ErrNone},
		"the first longer, then one lacks": {said(sized(x, 1), marked(y, strong("other"))), api.ErrNone},
		"lacks, and a wrong mode":          {said(marked(x, strong("other")), moded(y, 512)), api.ErrMode},
		"longer, and bytes are left":       {said(sized(x, 1), y) + "\x00", api.ErrLong},
	} {
		mark := put(t, b, c.s)[0]
		if c.want == api.OK {
			loads(t, b, mark, []api.File{f, g})
		} else if l, e := b.Load(mark); len(l) != 0 || e != c.want {
			t.Errorf("%s: %d files, error %d, want %d", name, len(l), e, c.want)
		}
	}
	for _, m := range []string{"", "x", strong("other"), numbered(1), strong(said(x, y))[:31]} {
		fails(t, b, m, api.ErrNone)
	}
	// A file's bytes are no manifest, as a rule: these say more of a path than there is.
	fails(t, b, x.Mark, api.ErrShort)
	roots(t, b)
}

// A file may be what is the tree's manifest under an ideal book, which numbers it first: to its mark two lead.
func TestTreeOfItself(t *testing.T) {
	b := blob.New(marks.Ideal())
	size := len(said(api.Item{Path: "a", Size: 40, Mark: numbered(1)}))
	l := []api.File{{Path: "a", Data: said(api.Item{Path: "a", Size: size, Mark: numbered(1)})}}
	root := save(t, b, l...)
	if root != numbered(1) {
		t.Fatalf("the root is %x", root)
	}
	kept(t, b, root, l[0].Data, 2)
	checks(t, b, true)
	loads(t, b, root, l)
	forget(t, b, root)
	holds(t, b, 0, 0)
	// With one of both there, it can be loaded, but too few lead to it.
	save(t, b, l...)
	drop(t, b, root)
	loads(t, b, root, l)
	checks(t, b, false)
	forget(t, b, root)
	holds(t, b, 0, 0)
}

// 11.3

func TestCheck(t *testing.T) {
	for name, book := range books() {
		t.Run(name, func(t *testing.T) {
			b := blob.New(book)
			checks(t, b, true)
			put(t, b, "text")
			checks(t, b, true)
			l := []api.File{{Path: "a", Data: "same"}, {Path: "b", Data: "same"}, {Path: "c", Data: "other"}, {Path: "d"}}
			root := save(t, b, l...)
			checks(t, b, true)
			// More may lead to what is saved than the roots say.
			all := []string{root, book.Mark("same"), book.Mark("other"), book.Mark("")}
			items, _ := tree.Items(book, l)
			manifest, _ := tree.Bytes(items)
			put(t, b, manifest, "same", "other", "")
			checks(t, b, true)
			drop(t, b, all...)
			checks(t, b, true)
			// One less at one mark, be it there still or not, is too few.
			for i, s := range []string{manifest, "same", "other", ""} {
				drop(t, b, all[i])
				checks(t, b, false)
				put(t, b, s)
				checks(t, b, true)
			}
			// Texts that no root says may go.
			drop(t, b, book.Mark("text"))
			checks(t, b, true)
			drop(t, b, book.Mark("other"))
			checks(t, b, false)
			forget(t, b, root)
			checks(t, b, true)
		})
	}
}

// Each root counts as often as it came, and what trees share as often as they say.
func TestCheckShared(t *testing.T) {
	b := blob.New(marks.Real())
	one := []api.File{file("a"), file("b")}
	x := save(t, b, one...)
	save(t, b, one...)
	save(t, b, file("b"))
	kept(t, b, strong("in b"), "in b", 3)
	for _, mark := range []string{x, strong("in a"), strong("in b")} {
		s, _ := b.Get(mark)
		drop(t, b, mark)
		checks(t, b, false)
		put(t, b, s)
		checks(t, b, true)
	}
	// A tree that is there no more asks for nothing.
	forget(t, b, x)
	checks(t, b, true)
	drop(t, b, strong("in a"))
	checks(t, b, false)
	forget(t, b, x)
	checks(t, b, true)
}

// Too many at one mark don't stand in for too few at another.
func TestCheckEach(t *testing.T) {
	b := blob.New(marks.Real())
	root := save(t, b, file("a"), file("b"))
	put(t, b, "in a", "in a", "text")
	drop(t, b, strong("in b"))
	checks(t, b, false)
	put(t, b, "in b")
	checks(t, b, true)
	manifest, _ := b.Get(root)
	drop(t, b, root)
	checks(t, b, false)
	put(t, b, manifest)
	checks(t, b, true)
}

// Unpack makes no roots, but what it finds can be loaded.
func TestUnpackTree(t *testing.T) {
	a, b := blob.New(marks.Real()), blob.New(marks.Real())
	l := []api.File{{Path: "a", Data: "same"}, {Path: "b", Data: "same"}, {Path: "c"}}
	root := save(t, a, l...)
	s, _ := a.Pack()
	unpacks(t, b, s, 3, 3)
	loads(t, b, root, l)
	roots(t, b)
	checks(t, b, true)
	if e := b.Forget(root); e != api.ErrNone {
		t.Errorf("Forget: error %d", e)
	}
	save(t, b, l...)
	kept(t, b, strong("same"), "same", 3)
	kept(t, b, strong(""), "", 2)
	forget(t, b, root)
	loads(t, b, root, l)
	// Ones that are there already are not put, though they are roots' own.
	unpacks(t, a, s, 3, 0)
	kept(t, a, strong("same"), "same", 2)
	forget(t, a, root)
	holds(t, a, 0, 0)
}

// 11.5

// plain is what is kept as the document tells it: how many lead to texts, and the trees that are saved.
type plain struct {
	refs  map[string]int
	trees [][]api.File
}

// lead counts n more that lead to a text.
func (p *plain) lead(s string, n int) {
	p.refs[s] += n
	if p.refs[s] <= 0 {
		delete(p.refs, s)
	}
}

// whole counts n more that lead to all of a tree.
func (p *plain) whole(t *testing.T, l []api.File, n int) {
	t.Helper()
	for _, f := range l {
		p.lead(f.Data, n)
	}
	p.lead(manifest(t, l), n)
}

// first is where a tree came first.
func (p *plain) first(l []api.File) int {
	return slices.IndexFunc(p.trees, func(x []api.File) bool { return slices.Equal(x, l) })
}

// right tells whether as many lead to all texts as the trees say, or more.
func (p *plain) right(t *testing.T) bool {
	t.Helper()
	need := plain{refs: map[string]int{}}
	for _, l := range p.trees {
		need.whole(t, l, 1)
	}
	for s, n := range need.refs {
		if p.refs[s] < n {
			return false
		}
	}
	return true
}

// someText is one of few texts.
func someText(chance *rand.Rand) string {
	return times(string(rune('x'+chance.Intn(2))), chance.Intn(3))
}

// someTree is one of few trees.
func someTree(chance *rand.Rand) (l []api.File) {
	for _, path := range []string{"a", "b/c", "b/d"} {
		if chance.Intn(2) == 0 {
			l = append(l, api.File{Path: path, Mode: chance.Intn(2), Data: someText(chance)})
		}
	}
	return l
}

// same asks whether all is kept as it should be.
func same(t *testing.T, b *blob.Blobs, p *plain) {
	t.Helper()
	bytes := 0
	for s, n := range p.refs {
		kept(t, b, strong(s), s, n)
		bytes += len(s)
	}
	holds(t, b, len(p.refs), bytes)
	var want []string
	for _, l := range p.trees {
		want = append(want, strong(manifest(t, l)))
	}
	roots(t, b, want...)
	checks(t, b, p.right(t))
}

// step does one thing of those that keep and let go.
func step(t *testing.T, chance *rand.Rand, b *blob.Blobs, p *plain) {
	t.Helper()
	l, s := someTree(chance), someText(chance)
	switch chance.Intn(6) {
	case 0:
		put(t, b, s)
		p.lead(s, 1)
	case 1:
		want := api.ErrNone
		if p.refs[s] > 0 {
			want = api.OK
			p.lead(s, -1)
		}
		if e := b.Drop(strong(s)); e != want {
			t.Errorf("Drop: error %d, want %d", e, want)
		}
	case 2:
		unpacks(t, b, packed(s, s), 2, 1-min(p.refs[s], 1))
		p.refs[s] = max(p.refs[s], 1)
	case 3, 4:
		if got := save(t, b, l...); got != strong(manifest(t, l)) {
			t.Errorf("the root is %x", got)
		}
		p.whole(t, l, 1)
		p.trees = append(p.trees, l)
	case 5:
		// Half of the trees that are asked for are there.
		if len(p.trees) > 0 && chance.Intn(2) == 0 {
			l = p.trees[chance.Intn(len(p.trees))]
		}
		at, want := p.first(l), api.ErrNone
		if at >= 0 {
			want = api.OK
			p.whole(t, l, -1)
			p.trees = slices.Delete(p.trees, at, at+1)
		}
		if e := b.Forget(strong(manifest(t, l))); e != want {
			t.Errorf("Forget: error %d, want %d", e, want)
		}
	}
}

func TestAnySteps(t *testing.T) {
	for seed := range int64(60) {
		chance := rand.New(rand.NewSource(seed))
		b, p := blob.New(marks.Real()), &plain{refs: map[string]int{}}
		for range 100 {
			step(t, chance, b, p)
			same(t, b, p)
		}
		if t.Failed() {
			t.Fatalf("seed %d", seed)
		}
	}
}

// A tree that is saved and not forgotten is loaded as it was; when all is let go, nothing is kept.
func TestAllLetGo(t *testing.T) {
	for seed := range int64(200) {
		chance := rand.New(rand.NewSource(seed))
		for name, book := range books() {
			b := blob.New(book)
			var texts, saved []string
			var trees [][]api.File
			for range chance.Intn(30) {
				if chance.Intn(2) == 0 {
					texts = append(texts, put(t, b, someText(chance))...)
				} else {
					trees = append(trees, someTree(chance))
					saved = append(saved, save(t, b, trees[len(trees)-1]...))
				}
			}
			chance.Shuffle(len(saved), func(i, j int) {
				saved[i], saved[j] = saved[j], saved[i]
				trees[i], trees[j] = trees[j], trees[i]
			})
			chance.Shuffle(len(texts), func(i, j int) { texts[i], texts[j] = texts[j], texts[i] })
			drop(t, b, texts...)
			for i := range saved {
				checks(t, b, true)
				for j := i; j < len(saved); j++ {
					loads(t, b, saved[j], trees[j])
				}
				forget(t, b, saved[i])
			}
			holds(t, b, 0, 0)
			roots(t, b)
			if t.Failed() {
				t.Fatalf("%s, seed %d", name, seed)
			}
		}
	}
}

// Thousands of trees may be saved, and share texts.
func TestManyRoots(t *testing.T) {
	b := blob.New(marks.Real())
	var l []string
	for i := range 3000 {
		l = append(l, save(t, b, file("a"), file("b"+strconv.Itoa(i))))
	}
	kept(t, b, strong("in a"), "in a", len(l))
	checks(t, b, true)
	roots(t, b, l...)
	forget(t, b, l...)
	holds(t, b, 0, 0)
}
