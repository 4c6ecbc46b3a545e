package delta

import (
	"strings"

	"barque/api"
	"barque/code"
)

// Bytes is a delta as bytes.
func Bytes(d api.Delta) (string, api.Errno) {
	if !Right(d) {
		return "", api.ErrArg
	}
	b := addNums([]byte(d.Basis+d.Mark), d.Size, len(d.Steps))
	for _, x := range d.Steps {
		if x.Text == "" {
			b = addNums(b, 2*x.Len+1, x.At)
			continue
		}
		b = append(addNums(b, 2*len(x.Text)), x.Text...)
	}
	return string(b), api.OK
}

// addNums lays numbers' bytes behind others; those of a delta that may be have no error.
func addNums(b []byte, l ...int) []byte {
	for _, n := range l {
		s, _ := code.Num(n)
		b = append(b, s...)
	}
	return b
}

// Read is the delta that bytes are.
func Read(s string) (api.Delta, api.Errno) {
	var d api.Delta
	r := code.Read(s)
	d.Basis = strings.Clone(r.Raw(api.MarkBytes))
	d.Mark = strings.Clone(r.Raw(api.MarkBytes))
	d.Size = r.Num()
	// No room is laid ahead, and the first error ends it: what is read may say any count.
	for range r.Num() {
		x := readStep(r)
		if e := r.Err(); e != api.OK {
			return api.Delta{}, e
		}
		if !isStep(x) {
			return api.Delta{}, api.ErrForm
		}
		x.Text = strings.Clone(x.Text)
		d.Steps = append(d.Steps, x)
	}
	if e := r.End(); e != api.OK {
		return api.Delta{}, e
	}
	if !Right(d) {
		return api.Delta{}, api.ErrForm
	}
	return d, api.OK
}

// readStep is the next step, whether it may be or not.
func readStep(r *code.Reader) api.Step {
	n := r.Num()
	if n%2 == 0 {
		return api.Step{Text: r.Raw(n / 2)}
	}
	return api.Step{Len: n / 2, At: r.Num()}
}
