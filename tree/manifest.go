package tree

import (
	"strings"

	"barque/api"
	"barque/code"
	"barque/marks"
)

// Items is a tree's manifest.
func Items(b *marks.Book, l []api.File) ([]api.Item, api.Errno) {
	if e := Check(l); e != api.OK {
		return nil, e
	}
	var items []api.Item
	for _, f := range l {
		items = append(items, api.Item{Path: strings.Clone(f.Path), Mode: f.Mode, Size: len(f.Data), Mark: b.Mark(f.Data)})
	}
	return items, api.OK
}

// Right tells what is wrong with a manifest.
func Right(l []api.Item) api.Errno {
	if e := together(len(l), func(i int) string { return l[i].Path }); e != api.OK {
		return e
	}
	for _, x := range l {
		if e := measures(x.Mode, x.Size); e != api.OK {
			return e
		}
		if len(x.Mark) != api.MarkBytes {
			return api.ErrForm
		}
	}
	return api.OK
}

// Bytes is a manifest as bytes: of each path what it does not share with the one ahead.
func Bytes(l []api.Item) (string, api.Errno) {
	if e := Right(l); e != api.OK {
		return "", e
	}
	var b strings.Builder
	b.WriteString(num(len(l)))
	ahead := ""
	for _, x := range l {
		shares := alike(ahead, x.Path)
		more, _ := code.Text(x.Path[shares:])
		b.WriteString(num(shares) + more + num(x.Mode) + num(x.Size) + x.Mark)
		ahead = x.Path
	}
	return b.String(), api.OK
}

// num is a number's bytes; those of a manifest that may be have no error.
func num(n int) string {
	s, _ := code.Num(n)
	return s
}

// alike is how many bytes two texts begin with, both.
func alike(a, b string) int {
	n := 0
	for n < min(len(a), len(b)) && a[n] == b[n] {
		n++
	}
	return n
}

// Of is the manifest that bytes are.
func Of(s string) ([]api.Item, api.Errno) {
	var l []api.Item
	r := code.Read(s)
	ahead := ""
	for range r.Count(api.MaxFiles) {
		x, e := readItem(r, ahead)
		if e != api.OK {
			return nil, e
		}
		l = append(l, x)
		ahead = x.Path
	}
	if e := r.End(); e != api.OK {
		return nil, e
	}
	if e := Right(l); e != api.OK {
		return nil, e
	}
	return l, api.OK
}

// readItem is the next item, behind one of such a path.
func readItem(r *code.Reader, ahead string) (api.Item, api.Errno) {
	var x api.Item
	shares := r.Count(api.MaxPath)
	more := r.Text(api.MaxPath)
	x.Mode = r.Num()
	x.Size = r.Num()
	x.Mark = strings.Clone(r.Raw(api.MarkBytes))
	// Asked here alone: an item that is not all there is not looked at.
	if e := r.Err(); e != api.OK {
		return api.Item{}, e
	}
	if shares > len(ahead) {
		return api.Item{}, api.ErrForm
	}
	x.Path = strings.Clone(ahead[:shares] + more)
	if alike(ahead, x.Path) != shares {
		return api.Item{}, api.ErrForm
	}
	return x, api.OK
}

// Between is what became of the paths of a manifest in another one, in order.
func Between(a, b []api.Item) ([]api.Change, api.Errno) {
	if e := Right(a); e != api.OK {
		return nil, e
	}
	if e := Right(b); e != api.OK {
		return nil, e
	}
	var l []api.Change
	add := func(kind int, path string) {
		l = append(l, api.Change{Kind: kind, Path: strings.Clone(path)})
	}
	for len(a)+len(b) > 0 {
		switch side := next(a, b); {
		case side < 0:
			add(api.Gone, a[0].Path)
			a = a[1:]
		case side > 0:
			add(api.Came, b[0].Path)
			b = b[1:]
		default:
			if kind := turned(a[0], b[0]); kind != 0 {
				add(kind, a[0].Path)
			}
			a, b = a[1:], b[1:]
		}
	}
	return l, api.OK
}

// next tells which of two lists, of which one at least has items, has the path that comes next: below 0, the first alone; above, the second alone.
func next(a, b []api.Item) int {
	if len(b) == 0 {
		return -1
	}
	if len(a) == 0 {
		return 1
	}
	return Order(a[0].Path, b[0].Path)
}

// turned is what became of an item in one of the same path: 0, if nothing did.
func turned(x, y api.Item) int {
	if x.Size != y.Size || x.Mark != y.Mark {
		return api.Turned
	}
	if x.Mode != y.Mode {
		return api.Remoded
	}
	return 0
}
