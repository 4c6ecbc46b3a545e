package sign

import (
	"cmp"
	"slices"
	"sort"
	"strings"

	"barque/api"
	"barque/marks"
	"barque/roll"
)

// Table finds a signature's blocks by their weak sums. One that NewTable did not give has nothing.
type Table struct {
	sig   api.Sig
	order []int // the whole blocks: by weak sum, those of one by mark, those of one mark rising
}

// NewTable is a table of a signature.
func NewTable(g api.Sig) (*Table, api.Errno) {
	if !Right(g) {
		return nil, api.ErrArg
	}
	t := &Table{sig: own(g)}
	for i := range g.Size / g.Block {
		t.order = append(t.order, i)
	}
	slices.SortStableFunc(t.order, func(i, k int) int {
		if n := cmp.Compare(t.sig.Weak[i], t.sig.Weak[k]); n != 0 {
			return n
		}
		return cmp.Compare(t.sig.Strong[i], t.sig.Strong[k])
	})
	return t, api.OK
}

// own is a signature in memory of its own.
func own(g api.Sig) api.Sig {
	g.Weak = slices.Clone(g.Weak)
	g.Strong = slices.Clone(g.Strong)
	for i, m := range g.Strong {
		g.Strong[i] = strings.Clone(m)
	}
	return g
}

// Find are the whole blocks of a weak sum, rising.
func (t *Table) Find(weak int) []int {
	if t == nil {
		return nil
	}
	l := slices.Clone(t.run(weak))
	slices.Sort(l)
	return l
}

// Match is a whole block that a text is, by weak sum and mark: that one, if it is one, which is wanted; else the first; -1: there is none.
func (t *Table) Match(b *marks.Book, weak int, s string, wanted int) int {
	if t == nil || len(s) != t.sig.Block {
		return -1
	}
	if t.isOf(wanted, weak) && b.Is(s, t.sig.Strong[wanted]) {
		return wanted
	}
	// A mark is asked for once, however many blocks have it: a real book reckons each time.
	for l := t.run(weak); len(l) > 0; l = t.behindMark(l) {
		if b.Is(s, t.sig.Strong[l[0]]) {
			return l[0]
		}
	}
	return -1
}

// Tail tells whether a text is the last block, and that is not whole.
func (t *Table) Tail(b *marks.Book, s string) bool {
	if t == nil || len(t.order) == len(t.sig.Weak) {
		return false
	}
	last := len(t.order)
	return len(s) == t.sig.Size-last*t.sig.Block && roll.Sum(s) == t.sig.Weak[last] && b.Is(s, t.sig.Strong[last])
}

// Size is how long the text is that was signed.
func (t *Table) Size() int {
	if t == nil {
		return 0
	}
	return t.sig.Size
}

// Block is how long the blocks are.
func (t *Table) Block() int {
	if t == nil {
		return 0
	}
	return t.sig.Block
}

// isOf tells whether a number is that of a whole block of a weak sum.
func (t *Table) isOf(i, weak int) bool {
	return i >= 0 && i < len(t.order) && t.sig.Weak[i] == weak
}

// run are the whole blocks of a weak sum, as they stand in the order.
func (t *Table) run(weak int) []int {
	from := sort.Search(len(t.order), func(k int) bool { return t.sig.Weak[t.order[k]] >= weak })
	n := sort.Search(len(t.order)-from, func(k int) bool { return t.sig.Weak[t.order[from+k]] > weak })
	return t.order[from : from+n]
}

// behindMark are those of a run that stand behind all of the first one's mark.
func (t *Table) behindMark(run []int) []int {
	first := t.sig.Strong[run[0]]
	return run[sort.Search(len(run), func(k int) bool { return t.sig.Strong[run[k]] > first }):]
}
