package delta

import (
	"strings"

	"barque/api"
	"barque/marks"
	"barque/roll"
	"barque/sign"
)

// Make is the steps that make s of the text that was signed.
func Make(b *marks.Book, g api.Sig, s string) ([]api.Step, api.Errno) {
	t, e := sign.NewTable(g)
	if e != api.OK {
		return nil, e
	}
	if len(s) > api.MaxSource {
		return nil, api.ErrLong
	}
	return search(b, t, s), api.OK
}

// search goes along a text: the blocks that it finds are copied, what lies between them is gathered.
func search(b *marks.Book, t *sign.Table, s string) []api.Step {
	var l []api.Step
	size := t.Block()
	wanted := 0
	from := 0 // for what lies ahead of it there are steps; from there on bytes are gathered
	// There is no window over a text that is shorter than a block.
	window, _ := roll.New(s, size)
along:
	for window != nil {
		at := window.At()
		i := t.Match(b, window.Sum(), s[at:at+size], wanted)
		switch {
		case i < 0 && window.Next():
			continue along
		case i < 0:
			break along
		}
		l = take(gather(l, s[from:at]), i*size, size)
		from, wanted = at+size, i+1
		if !window.Skip(size) {
			break along
		}
	}
	// The last block that is not whole is sought in what is left alone: not in what was copied.
	rest := t.Size() % size
	if last := len(s) - rest; last >= from && t.Tail(b, s[last:]) {
		return take(gather(l, s[from:last]), t.Size()-rest, rest)
	}
	return gather(l, s[from:])
}

// gather adds texts to steps, as long as they may be.
func gather(l []api.Step, s string) []api.Step {
	for s != "" {
		n := min(len(s), api.MaxLiteral)
		// A text of its own: s was handed in.
		l = append(l, api.Step{Text: strings.Clone(s[:n])})
		s = s[n:]
	}
	return l
}

// take adds a copy to steps, or makes the last one longer, if it is a copy that ends where this one begins.
func take(l []api.Step, at, n int) []api.Step {
	if len(l) > 0 {
		last := &l[len(l)-1]
		if last.Text == "" && last.At+last.Len == at {
			last.Len += n
			return l
		}
	}
	return append(l, api.Step{At: at, Len: n})
}
