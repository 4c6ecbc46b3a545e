package chain

import (
	"math"

	"barque/api"
)

// Tidy is steps that do the same: pieces of the basis that follow on one another as one, texts as long as may be.
func Tidy(l []api.Step) []api.Step {
	var tidy []api.Step
	// Texts are held till a copy or the end comes: how they are to be cut is not known ahead of that.
	var held []byte
	letGo := func() {
		for s := held; len(s) > 0; {
			n := min(len(s), api.MaxLiteral)
			tidy = append(tidy, api.Step{Text: string(s[:n])})
			s = s[n:]
		}
		held = held[:0]
	}
	for _, x := range l {
		switch {
		case x.Text != "":
			held = append(held, x.Text...)
		case x.Len > 0:
			letGo()
			tidy = take(tidy, x)
		}
	}
	letGo()
	return tidy
}

// take adds a copy to steps, or makes the last one longer, if that is a copy that ends where this one begins.
func take(l []api.Step, x api.Step) []api.Step {
	if len(l) > 0 {
		last := &l[len(l)-1]
		if last.Text == "" && follows(*last, x) {
			last.Len += x.Len
			return l
		}
	}
	return append(l, x)
}

// follows tells whether a copy begins where another one ends, and one step can be as long as both. Copies that may not be come here too, so no sum is made that might wrap.
func follows(ahead, x api.Step) bool {
	return x.At > ahead.At && x.At-ahead.At == ahead.Len && x.Len <= math.MaxInt-ahead.Len
}
