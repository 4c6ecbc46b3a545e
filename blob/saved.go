package blob

import (
	"slices"
	"strings"

	"barque/api"
	"barque/tree"
)

// Save keeps a tree: its files' bytes, and its manifest, the mark of which is told.
func (b *Blobs) Save(l []api.File) (string, api.Errno) {
	if !b.ready() {
		return "", api.ErrState
	}
	items, e := tree.Items(b.book, l)
	if e != api.OK {
		return "", e
	}
	manifest, e := tree.Bytes(items)
	if e != api.OK {
		return "", e
	}
	// Asked ahead of the files' being put, which would stay. (Of 256 files with the longest paths the manifest has some 61000 bytes.)
	if len(manifest) > api.MaxFrame {
		return "", api.ErrLong
	}
	for i, x := range items {
		b.lead(x.Mark, l[i].Data)
	}
	root := b.book.Mark(manifest)
	b.lead(root, manifest)
	b.roots = append(b.roots, strings.Clone(root))
	return root, api.OK
}

// Load is the tree whose manifest has a mark.
func (b *Blobs) Load(mark string) ([]api.File, api.Errno) {
	items, e := b.manifest(mark)
	if e != api.OK {
		return nil, e
	}
	var l []api.File
	for _, x := range items {
		s, e := b.Get(x.Mark)
		if e != api.OK {
			return nil, e
		}
		l = append(l, api.File{Path: x.Path, Mode: x.Mode, Data: s})
	}
	// Asked once all are there: a file that lacks is named ahead of one of another length.
	for i, x := range items {
		if len(l[i].Data) != x.Size {
			return nil, api.ErrDamage
		}
	}
	return l, api.OK
}

// manifest is the manifest that has a mark.
func (b *Blobs) manifest(mark string) ([]api.Item, api.Errno) {
	s, e := b.Get(mark)
	if e != api.OK {
		return nil, e
	}
	return tree.Of(s)
}

// Forget lets a tree that was saved go: once for each time that it was.
func (b *Blobs) Forget(mark string) api.Errno {
	if !b.ready() {
		return api.ErrState
	}
	at := slices.Index(b.roots, mark)
	if at < 0 {
		return api.ErrNone
	}
	items, e := b.manifest(mark)
	if e != api.OK {
		return e
	}
	// A text that is not there any more, as all was dropped that led to it, is none to drop.
	for _, x := range items {
		b.Drop(x.Mark)
	}
	b.Drop(mark)
	b.roots = slices.Delete(b.roots, at, at+1)
	return api.OK
}

// Roots are the marks of the trees that are saved, as they came.
func (b *Blobs) Roots() []string {
	if !b.ready() {
		return nil
	}
	var l []string
	for _, root := range b.roots {
		l = append(l, strings.Clone(root))
	}
	return l
}

// Check tells whether the manifests of all trees that are saved can be read, and as many lead to each text as these say, or more.
func (b *Blobs) Check() bool {
	if !b.ready() {
		return false
	}
	lead := map[string]int{} // how many lead to each mark, as the roots say
	for _, root := range b.roots {
		items, e := b.manifest(root)
		if e != api.OK {
			return false
		}
		lead[root]++
		for _, x := range items {
			lead[x.Mark]++
		}
	}
	for mark, n := range lead {
		if b.Refs(mark) >= n {
			delete(lead, mark)
		}
	}
	return len(lead) == 0
}
