package image_test

import (
	"math/rand"
	"slices"
	"strings"
	"testing"
	"unsafe"

	"barque/api"
	"barque/image"
	"barque/tree"
)

// 10.5

func TestMerge(t *testing.T) {
	one := func(path, data string) api.File { return api.File{Path: path, Data: data} }
	tree := func(l ...api.File) []api.File { return l }
	base := tree(one("a", "1"), one("b", "2"), one("c", "3"))
	for name, c := range map[string]struct {
		base, a, b, want []api.File
		torn             []string
	}{
		"nothing":                     {nil, nil, nil, nil, nil},
		"nothing changed":             {base, base, base, base, nil},
		"a changed a file":            {base, tree(one("a", "x"), base[1], base[2]), base, tree(one("a", "x"), base[1], base[2]), nil},
		"b changed a file":            {base, base, tree(one("a", "x"), base[1], base[2]), tree(one("a", "x"), base[1], base[2]), nil},
		"each changed another file":   {base, tree(one("a", "x"), base[1], base[2]), tree(base[0], base[1], one("c", "y")), tree(one("a", "x"), base[1], one("c", "y")), nil},
		"both changed a file alike":   {base, tree(one("a", "x"), base[1], base[2]), tree(one("a", "x"), base[1], base[2]), tree(one("a", "x"), base[1], base[2]), nil},
		"both changed a file":         {base, tree(one("a", "x"), base[1], base[2]), tree(one("a", "y"), base[1], base[2]), tree(one("a", "x"), base[1], base[2]), []string{"a"}},
		"both changed all":            {base, tree(one("a", "x"), one("b", "x"), one("c", "x")), tree(one("a", "y"), one("b", "y"), one("c", "y")), tree(one("a", "x"), one("b", "x"), one("c", "x")), []string{"a", "b", "c"}},
		"a let a file go":             {base, base[1:], base, base[1:], nil},
		"b let a file go":             {base, base, base[:2], base[:2], nil},
		"both let a file go":          {base, base[1:], base[1:], base[1:], nil},
		"each let another file go":    {base, base[1:], base[:2], base[1:2], nil},
		"all go":                      {base, base[1:], base[:1], nil, nil},
		"a let go what b changed":     {base, base[1:], tree(one("a", "y"), base[1], base[2]), base[1:], []string{"a"}},
		"b let go what a changed":     {base, tree(base[0], base[1], one("c", "x")), base[:2], tree(base[0], base[1], one("c", "x")), []string{"c"}},
		"a has a new file":            {base[:2], base, base[:2], base, nil},
		"b has a new file":            {base[1:], base[1:], base, base, nil},
		"each has a new file":         {base[1:2], base[:2], base[1:], base, nil},
		"both have a new file, alike": {base[:2], base, base, base, nil},
		"both have a new file":        {base[:2], base, tree(base[0], base[1], one("c", "y")), base, []string{"c"}},
		"both have other ones":        {nil, base[:1], base[2:], tree(base[0], base[2]), nil},
		"another mode alone":          {base, tree(base[0], api.File{Path: "b", Mode: 1, Data: "2"}, base[2]), base, tree(base[0], api.File{Path: "b", Mode: 1, Data: "2"}, base[2]), nil},
		"another mode, and bytes":     {base, tree(base[0], api.File{Path: "b", Mode: 1, Data: "2"}, base[2]), tree(base[0], one("b", "y"), base[2]), tree(base[0], api.File{Path: "b", Mode: 1, Data: "2"}, base[2]), []string{"b"}},
		"modes that are two":          {nil, tree(api.File{Path: "b", Mode: 1}), tree(api.File{Path: "b", Mode: 2}), tree(api.File{Path: "b", Mode: 1}), []string{"b"}},
		"a new, empty file":           {nil, nil, tree(one("a", "")), tree(one("a", "")), nil},
		"an empty file goes":          {tree(one("a", "")), nil, tree(one("a", "")), nil, nil},
		"back to an empty one":        {tree(one("a", "x")), tree(one("a", "")), tree(one("a", "x")), tree(one("a", "")), nil},
		"of empty files, modes":       {tree(one("a", "")), nil, tree(api.File{Path: "a", Mode: 3}), nil, []string{"a"}},
		"told in order name by name":  {nil, tree(one("a/b", "1"), one("a-b", "1"), one("b", "1")), tree(one("a/b", "2"), one("a-b", "2"), one("b", "2")), tree(one("a/b", "1"), one("a-b", "1"), one("b", "1")), []string{"a/b", "a-b", "b"}},
		"a file becomes a folder":     {tree(one("a", "1")), tree(one("a/b", "2")), tree(one("a", "1")), tree(one("a/b", "2")), nil},
		"a folder becomes a file":     {tree(one("a/b", "1")), tree(one("a/b", "1")), tree(one("a", "2")), tree(one("a", "2")), nil},
	} {
		got, torn, e := image.Merge(plainOf(c.base), plainOf(c.a), plainOf(c.b))
		if got != plainOf(c.want) || !slices.Equal(torn, c.torn) || e != api.OK {
			t.Errorf("%s: %q, torn %q, error %d, want %q, torn %q", name, got, torn, e, plainOf(c.want), c.torn)
		}
	}
}

func TestMergeRefused(t *testing.T) {
	right := plainOf(files("a", "b"))
	for _, c := range notImages(t) {
		for i := range 3 {
			l := []string{right, right, right}
			l[i] = c.s
			if got, torn, e := image.Merge(l[0], l[1], l[2]); got != "" || len(torn) != 0 || e != c.want {
				t.Errorf("%s, text %d: %q, torn %q, error %d, want %d", c.name, i, got, torn, e, c.want)
			}
		}
	}
	// From the left.
	order, mode := nums(2)+said("b", 0, 0)+said("a", 0, 0), nums(1)+said("a", 512, 0)
	for i, l := range [][3]string{{order, mode, ""}, {"\x00", order, mode}, {order, "\x00", mode}} {
		if got, torn, e := image.Merge(l[0], l[1], l[2]); got != "" || len(torn) != 0 || e != api.ErrOrder {
			t.Errorf("from the left, %d: %q, torn %q, error %d", i, got, torn, e)
		}
	}
	// What is merged may not be, though each of the three may.
	other := api.File{Path: "!", Data: "another"}
	half, rest := full(image.Most)[:4], full(image.Most + 1)[4:]
	for name, c := range map[string]struct {
		base, a, b []api.File
		want       api.Errno
	}{
		"a file, and one in it":                    {nil, files("a"), files("a/b"), api.ErrExist},
		"a file in one":                            {nil, files("!", "a/b"), append([]api.File{other}, file("a")), api.ErrExist},
		"a file that b changed, and a folder of a": {files("a"), files("a/b"), []api.File{{Path: "a", Data: "y"}, {Path: "a-"}}, api.OK},
		"too many files":                           {nil, many(256)[:200], many(257)[57:], api.ErrFull},
		"as many as may be":                        {nil, many(256)[:200], many(256)[56:], api.OK},
		"a byte too many":                          {nil, half, rest, api.ErrLong},
		"just full":                                {nil, half, full(image.Most)[4:], api.OK},
	} {
		got, torn, e := image.Merge(plainOf(c.base), plainOf(c.a), plainOf(c.b))
		if e != c.want || e != api.OK && (got != "" || len(torn) != 0) {
			t.Errorf("%s: %d bytes, torn %q, error %d, want %d", name, len(got), torn, e, c.want)
		}
	}
}

// plainMerge is what becomes of each path that there is, each asked alone.
func plainMerge(base, a, b []api.File) (merged []api.File, torn []string) {
	var paths []string
	for _, f := range slices.Concat(base, a, b) {
		paths = append(paths, f.Path)
	}
	slices.SortFunc(paths, func(s, t string) int { return slices.Compare(strings.Split(s, "/"), strings.Split(t, "/")) })
	for _, path := range slices.Compact(paths) {
		at := func(l []api.File) (some []api.File) {
			for _, f := range l {
				if f.Path == path {
					some = append(some, f)
				}
			}
			return some
		}
		has := at(a)
		switch {
		case slices.Equal(at(a), at(b)), slices.Equal(at(base), at(b)):
		case slices.Equal(at(base), at(a)):
			has = at(b)
		default:
			torn = append(torn, path)
		}
		merged = append(merged, has...)
	}
	return merged, torn
}

func TestMergeOfAny(t *testing.T) {
	chance := rand.New(rand.NewSource(105))
	told, agreed := map[api.Errno]int{}, 0
	for range 30000 {
		base, a, b := someTree(chance), someTree(chance), someTree(chance)
		want, torn := plainMerge(base, a, b)
		got, gotTorn, e := image.Merge(plainOf(base), plainOf(a), plainOf(b))
		told[e]++
		if e != tree.Check(want) || e != api.OK && (got != "" || len(gotTorn) != 0) {
			t.Fatalf("%v, %v, %v: %q, torn %q, error %d", base, a, b, got, gotTorn, e)
		}
		if e == api.OK && (got != plainOf(want) || !slices.Equal(gotTorn, torn)) {
			t.Fatalf("%v, %v, %v: %q, torn %q, want %v, torn %q", base, a, b, got, gotTorn, want, torn)
		}
		if e == api.OK && len(torn) == 0 {
			agreed++
		}
	}
	if told[api.OK] < 1000 || told[api.ErrExist] < 1000 || agreed < 1000 {
		t.Errorf("errors %v, %d agreed", told, agreed)
	}
}

// 10.6

// What one side alone changed is what is merged, and no path is told.
func TestMergeOfOneSide(t *testing.T) {
	chance := rand.New(rand.NewSource(1066))
	check := func(x, y string) {
		t.Helper()
		for i, l := range [][3]string{{x, x, y}, {x, y, x}, {x, y, y}} {
			if got, torn, e := image.Merge(l[0], l[1], l[2]); got != y || len(torn) != 0 || e != api.OK {
				t.Fatalf("way %d, %.200q and %.200q: %.200q, torn %q, error %d", i, x, y, got, torn, e)
			}
		}
	}
	for range 5000 {
		check(plainOf(someTree(chance)), plainOf(someTree(chance)))
	}
	for _, x := range rightTrees() {
		for _, y := range rightTrees() {
			check(plainOf(x), plainOf(y))
		}
	}
}

// What is answered shares no memory with what was handed in (R3).
func TestMemoryOfMerge(t *testing.T) {
	a, b := plainOf(files("a", "b")), plainOf([]api.File{{Path: "a"}, {Path: "c"}})
	memory := []byte(a + b)
	got, torn, e := image.Merge("\x00", unsafe.String(&memory[0], len(a)), unsafe.String(&memory[len(a)], len(b)))
	if string(memory) != a+b {
		t.Errorf("what was handed in is %q", memory)
	}
	clear(memory)
	if got != plainOf([]api.File{file("a"), file("b"), {Path: "c"}}) || !slices.Equal(torn, []string{"a"}) || e != api.OK {
		t.Errorf("%q, torn %q, error %d", got, torn, e)
	}
}
