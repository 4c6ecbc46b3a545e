package chain

import (
	"slices"

	"barque/api"
)

// source is a text by the steps that make it, and the places in it at which they begin.
type source struct {
	steps  []api.Step
	begins []int
}

// sourceOf is what steps make, which may be.
func sourceOf(l []api.Step) source {
	s := source{steps: l}
	at := 0
	for _, x := range l {
		s.begins = append(s.begins, at)
		at += makes(x)
	}
	return s
}

// add adds to steps those that make n bytes of the source from at on; it must have so many, and n be above 0.
func (s source) add(l []api.Step, at, n int) []api.Step {
	i, begins := slices.BinarySearch(s.begins, at)
	if !begins {
		i--
	}
	for ; n > 0; i++ {
		x := cut(s.steps[i], at-s.begins[i], n)
		l = append(l, x)
		at += makes(x)
		n -= makes(x)
	}
	return l
}

// cut is a step that makes what another one does, from a byte on, and at most so many.
func cut(x api.Step, from, most int) api.Step {
	n := min(most, makes(x)-from)
	if x.Text != "" {
		return api.Step{Text: x.Text[from : from+n]}
	}
	return api.Step{At: x.At + from, Len: n}
}

// makes is how many bytes a step makes, which may be.
func makes(x api.Step) int { return len(x.Text) + x.Len }
