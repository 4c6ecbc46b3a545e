package image

import (
	"barque/api"
	"barque/tree"
)

// Merge is an image that has what two others changed in a third one; and the paths that both changed, each otherwise: there the first one's file stays.
func Merge(base, a, b string) (string, []string, api.Errno) {
	var trees [3][]api.File
	for i, s := range [3]string{base, a, b} {
		l, e := Tree(s)
		if e != api.OK {
			return "", nil, e
		}
		trees[i] = l
	}
	// next takes the path that comes next, and the file that each tree has there: one of no path, where it has none. Behind the last path it is the empty text.
	next := func() (string, [3]api.File) {
		path := first(trees)
		var there [3]api.File
		for i, l := range trees {
			if len(l) > 0 && l[0].Path == path {
				there[i], trees[i] = l[0], l[1:]
			}
		}
		return path, there
	}
	var merged []api.File
	var torn []string
	for path, there := next(); path != ""; path, there = next() {
		f, agreed := settled(there[0], there[1], there[2])
		if f.Path != "" {
			merged = append(merged, f)
		}
		if !agreed {
			torn = append(torn, path)
		}
	}
	s, e := Of(merged)
	if e != api.OK {
		return "", nil, e
	}
	return s, torn, api.OK
}

// first is the first path of three trees; the empty text, which is no path, if they have none.
func first(trees [3][]api.File) string {
	path := ""
	for _, l := range trees {
		if len(l) > 0 && (path == "" || tree.Order(l[0].Path, path) < 0) {
			path = l[0].Path
		}
	}
	return path
}

// settled is what becomes of a file of the base that two trees have, and whether they do not gainsay each other.
func settled(base, a, b api.File) (api.File, bool) {
	if a == b || b == base {
		return a, true
	}
	if a == base {
		return b, true
	}
	return a, false
}
