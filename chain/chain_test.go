package chain_test

import (
	"encoding/binary"
	"math"
	"math/rand"
	"slices"
	"strings"
	"testing"
	"unsafe"

	"barque/api"
	"barque/chain"
	"barque/delta"
	"barque/marks"
)

// numbered is an ideal book's mark of a number.
func numbered(n int) string {
	return string(binary.LittleEndian.AppendUint64(nil, uint64(n))) + strings.Repeat("\x00", 24)
}

// between is a delta of such steps, from the mark of one number to that of another one.
func between(from, to int, l ...api.Step) api.Delta {
	return api.Delta{Basis: numbered(from), Mark: numbered(to), Size: len(bytesOf(l)), Steps: l}
}

// some is n bytes of so many kinds.
func some(chance *rand.Rand, n, kinds int) string {
	b := make([]byte, n)
	for i := range b {
		b[i] = byte('a' + chance.Intn(kinds))
	}
	return string(b)
}

// turned is a text of pieces of another one, with bytes between them.
func turned(chance *rand.Rand, s string) string {
	t := ""
	for range chance.Intn(5) {
		at := chance.Intn(len(s) + 1)
		t += s[at:at+chance.Intn(len(s)-at+1)] + some(chance, chance.Intn(3)*chance.Intn(9), 26)
	}
	return t[:min(len(t), 2000)]
}

// zero tells whether a delta is the zero one.
func zero(d api.Delta) bool {
	return d.Basis == "" && d.Mark == "" && d.Size == 0 && len(d.Steps) == 0
}

// same tells whether two deltas are alike.
func same(d, c api.Delta) bool {
	return d.Basis == c.Basis && d.Mark == c.Mark && d.Size == c.Size && slices.Equal(d.Steps, c.Steps)
}

// composed is the delta that two make as the document tells it: byte by byte.
func composed(a, b api.Delta) api.Delta {
	made := bytesOf(a.Steps)
	var l []from
	for _, f := range bytesOf(b.Steps) {
		if f.at >= 0 {
			f = made[f.at]
		}
		l = append(l, f)
	}
	return api.Delta{Basis: a.Basis, Mark: b.Mark, Size: len(l), Steps: stepsOf(l)}
}

// wrong are deltas that may not be, though their marks are those of between(1, 2).
func wrong() map[string]api.Delta {
	m := map[string]api.Delta{}
	but := func(cause string, turn func(d *api.Delta)) {
		d := between(1, 2, part(0, 4), text("ab"))
		turn(&d)
		m[cause] = d
	}
	but("a size less", func(d *api.Delta) { d.Size-- })
	but("a size more", func(d *api.Delta) { d.Size++ })
	but("a size below 0", func(d *api.Delta) { d.Size = -1 })
	but("no size", func(d *api.Delta) { d.Size = 0 })
	but("a size too great", func(d *api.Delta) { *d = between(1, 2, part(0, api.MaxSource), text("x")) })
	but("a step of nothing", func(d *api.Delta) { d.Steps[1] = api.Step{}; d.Size = 4 })
	but("a copy below 0", func(d *api.Delta) { d.Steps[0].At = -1 })
	but("a copy of less than nothing", func(d *api.Delta) { d.Steps[0].Len = -1; d.Size = 1 })
	but("a copy too far", func(d *api.Delta) { d.Steps[0].At = api.MaxSource - 3 })
	but("a copy beyond all", func(d *api.Delta) { d.Steps[0].At = math.MaxInt })
	but("a text with At", func(d *api.Delta) { d.Steps[1].At = 1 })
	but("a text with Len", func(d *api.Delta) { d.Steps[1].Len = 1 })
	but("a text too long", func(d *api.Delta) { *d = between(1, 2, text(strings.Repeat("x", 4097))) })
	return m
}

// noMarks are texts that are no marks for their length.
func noMarks() []string {
	return []string{"", "\x01", numbered(1)[:31], numbered(1) + "\x00", numbered(1) + numbered(1)}
}

// 7.2: Compose

func TestCompose(t *testing.T) {
	a := between(1, 2, part(0, 4), text("abcd"), part(10, 4)) // 0..4, a text up to 8, 10..14
	for _, c := range []struct {
		name string
		a, b api.Delta
		want []api.Step
	}{
		{"all", a, between(2, 3, part(0, 12)), []api.Step{part(0, 4), text("abcd"), part(10, 4)}},
		{"nothing", a, between(2, 3), nil},
		{"nothing of nothing", between(1, 2), between(2, 3), nil},
		{"a text of nothing", between(1, 2), between(2, 3, text("x")), []api.Step{text("x")}},
		{"b's text alone", a, between(2, 3, text("x"), text("y")), []api.Step{text("xy")}},
		{"a's text alone", a, between(2, 3, part(5, 2)), []api.Step{text("bc")}},
		{"a's basis alone", a, between(2, 3, part(9, 2)), []api.Step{part(11, 2)}},
		{"a whole step", a, between(2, 3, part(4, 4)), []api.Step{text("abcd")}},
		{"the last byte", a, between(2, 3, part(11, 1)), []api.Step{part(13, 1)}},
		{"over all borders", a, between(2, 3, part(3, 6)), []api.Step{part(3, 1), text("abcd"), part(10, 1)}},
		{"over one border", a, between(2, 3, part(2, 3), part(7, 2)), []api.Step{part(2, 2), text("ad"), part(10, 1)}},
		{"texts beside one another", a, between(2, 3, text("x"), part(4, 2), text("y"), part(6, 2), text("z")), []api.Step{text("xabycdz")}},
		{"what lay apart comes together", between(1, 2, part(0, 4), text("x"), part(4, 4)), between(2, 3, part(0, 4), part(5, 4)), []api.Step{part(0, 8)}},
		{"what was together comes apart", between(1, 2, part(0, 8)), between(2, 3, part(4, 4), part(0, 4)), []api.Step{part(4, 4), part(0, 4)}},
		{"twice", a, between(2, 3, part(0, 6), part(0, 6)), []api.Step{part(0, 4), text("ab"), part(0, 4), text("ab")}},
		{"untidy ones", between(1, 2, part(0, 2), part(2, 2), text("a"), text("b")), between(2, 3, part(0, 1), part(1, 4), part(5, 1)), []api.Step{part(0, 4), text("ab")}},
	} {
		d, e := chain.Compose(c.a, c.b)
		want := api.Delta{Basis: c.a.Basis, Mark: c.b.Mark, Size: c.b.Size, Steps: c.want}
		if !same(d, want) || e != api.OK || !delta.Right(d) {
			t.Errorf("%s: %v, error %d, want %v", c.name, d, e, want)
		}
	}
}

func TestComposeLongTexts(t *testing.T) {
	x := func(n int) string { return strings.Repeat("x", n) }
	a := between(1, 2, text(x(4096)), text(x(4)), part(0, 1), text(x(3000)))
	b := between(2, 3, text("a"), part(0, 4100), text("b"), part(4101, 3000), part(4100, 1))
	want := between(1, 3, text("a"+x(4095)), text(x(5)+"b"+x(3000)), part(0, 1))
	if d, e := chain.Compose(a, b); !same(d, want) || e != api.OK {
		t.Errorf("%d steps, error %d", len(d.Steps), e)
	}
}

func TestComposeRefused(t *testing.T) {
	a, b := between(1, 2, part(0, 4), text("ab")), between(2, 3, part(0, 6))
	beyond := between(2, 3, part(0, 7))
	refused := func(name string, a, b api.Delta, want api.Errno) {
		t.Helper()
		if d, e := chain.Compose(a, b); !zero(d) || e != want {
			t.Errorf("%s: %v, error %d, want %d", name, d, e, want)
		}
	}
	for cause, d := range wrong() {
		refused("first: "+cause, d, b, api.ErrArg)
		refused("first, and beyond it: "+cause, d, beyond, api.ErrArg)
		refused("second: "+cause, between(7, 1, part(0, api.MaxSource)), d, api.ErrArg)
		refused("second, of another basis: "+cause, a, d, api.ErrArg)
		refused("both: "+cause, d, d, api.ErrArg)
	}
	for _, m := range noMarks() {
		no, to, of, none := a, a, b, b
		no.Basis, to.Mark, of.Basis, none.Mark = m, m, m, m
		refused("first's basis", no, b, api.ErrArg)
		refused("first's mark", to, of, api.ErrArg)
		refused("second's basis", a, of, api.ErrArg)
		refused("second's mark", a, none, api.ErrArg)
	}
	refused("zero ones", api.Delta{}, api.Delta{}, api.ErrArg)
	refused("of another basis", a, between(1, 3, part(0, 6)), api.ErrBasis)
	refused("the wrong way round", b, a, api.ErrBasis)
	refused("of another basis, and beyond it", a, between(3, 2, part(0, 7)), api.ErrBasis)
	for i := range api.MarkBytes {
		m := []byte(b.Basis)
		m[i] ^= 128
		other := b
		other.Basis = string(m)
		refused("another byte of the mark", a, other, api.ErrBasis)
	}
	for _, x := range []api.Step{part(0, 7), part(6, 1), part(5, 2), part(7, 1), part(api.MaxSource-1, 1), part(0, api.MaxSource)} {
		refused("beyond", a, between(2, 3, x), api.ErrRange)
		if x.Len < api.MaxSource {
			refused("beyond, in the end", a, between(2, 3, text("x"), part(0, 6), x), api.ErrRange)
			refused("beyond, at first", a, between(2, 3, x, part(0, 6)), api.ErrRange)
		}
		refused("beyond nothing", between(1, 2), between(2, 3, x), api.ErrRange)
	}
	// Copies up to the end are not beyond it.
	if d, e := chain.Compose(a, between(2, 3, part(5, 1), part(0, 6))); d.Size != 7 || e != api.OK {
		t.Errorf("%v, error %d", d, e)
	}
}

func TestComposeAny(t *testing.T) {
	chance := rand.New(rand.NewSource(3))
	basis := some(chance, 60, 26)
	for round := range 4000 {
		a := between(1, 2, untidy(chance, chance.Intn(61), chance.Intn(20))...)
		b := between(2, 3, untidy(chance, a.Size, chance.Intn(20))...)
		d, e := chain.Compose(a, b)
		if want := composed(a, b); !same(d, want) || e != api.OK || !delta.Right(d) {
			t.Fatalf("round %d: %v, %v: %v, error %d, want %v", round, a.Steps, b.Steps, d, e, want)
		}
		between, _ := delta.Run(basis, a.Steps)
		want, _ := delta.Run(between, b.Steps)
		if s, e := delta.Run(basis, d.Steps); s != want || e != api.OK {
			t.Fatalf("round %d: %q, error %d, want %q", round, s, e, want)
		}
	}
}

// Deltas of as many steps as may be.
func TestComposeMany(t *testing.T) {
	var back, texts []api.Step
	for i := range api.MaxSource {
		back = append(back, part(api.MaxSource-1-i, 1))
		texts = append(texts, text(string([]byte{byte(i % 251)})))
	}
	there, here := between(1, 2, back...), between(2, 1, back...)
	whole := []api.Step{part(0, api.MaxSource)}
	if d, e := chain.Compose(there, here); !same(d, between(1, 1, whole...)) || e != api.OK {
		t.Errorf("there and back: %d steps, error %d", len(d.Steps), e)
	}
	if d, e := chain.Compose(there, between(2, 3, whole...)); !same(d, between(1, 3, back...)) || e != api.OK {
		t.Errorf("there: %d steps, error %d", len(d.Steps), e)
	}
	d, e := chain.Compose(between(1, 2, texts...), between(2, 3, back...))
	if e != api.OK || len(d.Steps) != api.MaxSource/api.MaxLiteral || delta.Sent(d.Steps) != api.MaxSource || !delta.Right(d) {
		t.Fatalf("texts: %d steps, error %d", len(d.Steps), e)
	}
	for i, x := range d.Steps {
		if at := api.MaxSource - 1 - i*api.MaxLiteral; x.Text[0] != byte(at%251) || x.Text[api.MaxLiteral-1] != byte((at-api.MaxLiteral+1)%251) {
			t.Fatalf("text %d: %x", i, x.Text)
		}
	}
}

// 7.2: Fold

func TestFold(t *testing.T) {
	untidy := between(1, 2, part(0, 2), part(2, 2), text("a"), text("b"))
	tidy := between(1, 2, part(0, 4), text("ab"))
	next, last := between(2, 3, part(3, 3), text("c")), between(3, 4, part(2, 2), part(0, 1))
	for _, c := range []struct {
		name string
		l    []api.Delta
		want api.Delta
	}{
		{"one", []api.Delta{untidy}, tidy},
		{"a tidy one", []api.Delta{tidy}, tidy},
		{"one of nothing", []api.Delta{between(1, 2)}, between(1, 2)},
		{"two", []api.Delta{untidy, next}, between(1, 3, part(3, 1), text("abc"))},
		{"three", []api.Delta{untidy, next, last}, between(1, 4, text("bc"), part(3, 1))},
		{"by nothing", []api.Delta{untidy, between(2, 3), between(3, 4, text("x")), between(4, 5, part(0, 1), part(0, 1))}, between(1, 5, text("xx"))},
	} {
		if d, e := chain.Fold(c.l); !same(d, c.want) || e != api.OK {
			t.Errorf("%s: %v, error %d, want %v", c.name, d, e, c.want)
		}
	}
}

func TestFoldRefused(t *testing.T) {
	a, b, c := between(1, 2, part(0, 4)), between(2, 3, part(0, 4)), between(3, 4, part(0, 4))
	beyond := between(2, 3, part(1, 4))
	refused := func(name string, want api.Errno, l ...api.Delta) {
		t.Helper()
		if d, e := chain.Fold(l); !zero(d) || e != want {
			t.Errorf("%s: %v, error %d, want %d", name, d, e, want)
		}
	}
	refused("none", api.ErrArg)
	refused("no deltas", api.ErrArg, []api.Delta{}...)
	refused("a zero one", api.ErrArg, api.Delta{})
	for cause, d := range wrong() {
		refused("one: "+cause, api.ErrArg, d)
		refused("the first: "+cause, api.ErrArg, d, b, c)
		refused("the first, and one of another basis: "+cause, api.ErrArg, d, c)
		refused("the last: "+cause, api.ErrArg, between(7, 1, part(0, 6)), d)
		refused("one between: "+cause, api.ErrArg, between(7, 1, part(0, 6)), d, b)
		// The first error is told.
		refused("behind one of another basis: "+cause, api.ErrBasis, a, c, d)
		refused("behind one beyond: "+cause, api.ErrRange, a, beyond, d)
	}
	refused("of another basis", api.ErrBasis, a, c)
	refused("of another basis at last", api.ErrBasis, a, b, b)
	refused("of the first's basis", api.ErrBasis, a, b, between(1, 2, part(0, 4)))
	refused("beyond", api.ErrRange, a, beyond, c)
	refused("beyond at last", api.ErrRange, a, b, between(3, 4, part(0, 5)))
	refused("beyond, then of another basis", api.ErrRange, a, beyond, a)
	refused("of another basis, then beyond", api.ErrBasis, a, c, beyond)
}

// 7.3: Run

// row is a text, and what becomes of it delta by delta.
func row(t *testing.T, chance *rand.Rand, b *marks.Book, n int) ([]string, []api.Delta) {
	t.Helper()
	texts := []string{some(chance, chance.Intn(300), 4)}
	var l []api.Delta
	for i := range n {
		texts = append(texts, turned(chance, texts[i]))
		d, e := delta.Of(b, texts[i], texts[i+1], 16)
		if e != api.OK {
			t.Fatalf("error %d", e)
		}
		l = append(l, d)
	}
	return texts, l
}

func TestRun(t *testing.T) {
	for _, b := range []*marks.Book{marks.Ideal(), marks.Real()} {
		chance := rand.New(rand.NewSource(4))
		texts, l := row(t, chance, b, 8)
		for i := range texts {
			for k := i; k < len(texts); k++ {
				if s, n, e := chain.Run(b, texts[i], l[i:k]); s != texts[k] || n != k-i || e != api.OK {
					t.Errorf("from %d to %d: %d bytes, %d, error %d", i, k, len(s), n, e)
				}
			}
		}
	}
}

func TestRunOfNone(t *testing.T) {
	memory := []byte("basis")
	for _, b := range []*marks.Book{nil, {}, marks.Ideal(), marks.Real()} {
		for _, s := range []string{"", unsafe.String(&memory[0], len(memory)), strings.Repeat("x", api.MaxSource+1)} {
			for _, l := range [][]api.Delta{nil, {}} {
				got, n, e := chain.Run(b, s, l)
				if got != s || n != 0 || e != api.OK {
					t.Errorf("%d bytes: %d bytes, %d, error %d", len(s), len(got), n, e)
				}
				if len(got) > 0 && unsafe.StringData(got) == unsafe.StringData(s) {
					t.Errorf("%d bytes: the answer is what was handed in", len(s))
				}
			}
		}
	}
}

func TestRunRefused(t *testing.T) {
	for _, b := range []*marks.Book{marks.Ideal(), marks.Real()} {
		const first, second, third = "0123456789", "2345", "45ab"
		l := []api.Delta{
			{Basis: b.Mark(first), Mark: b.Mark(second), Size: 4, Steps: []api.Step{part(2, 4)}},
			{Basis: b.Mark(second), Mark: b.Mark(third), Size: 4, Steps: []api.Step{part(2, 2), text("ab")}},
			{Basis: b.Mark(third), Mark: b.Mark("4"), Size: 1, Steps: []api.Step{part(0, 1)}},
		}
		if s, n, e := chain.Run(b, first, l); s != "4" || n != 3 || e != api.OK {
			t.Fatalf("%q, %d, error %d", s, n, e)
		}
		for name, c := range map[string]struct {
			turn func(d *api.Delta)
			want api.Errno
		}{
			"may not be":         {func(d *api.Delta) { d.Size++ }, api.ErrArg},
			"of another basis":   {func(d *api.Delta) { d.Basis = d.Mark }, api.ErrBasis},
			"beyond the basis":   {func(d *api.Delta) { d.Steps[0].At = 11 }, api.ErrRange},
			"another copy":       {func(d *api.Delta) { d.Steps[0].At = 1 }, api.ErrSum},
			"another text's sum": {func(d *api.Delta) { d.Mark = b.Mark("another") }, api.ErrSum},
		} {
			for i := range l {
				bent := slices.Clone(l)
				bent[i].Steps = slices.Clone(l[i].Steps)
				c.turn(&bent[i])
				if s, n, e := chain.Run(b, first, bent); s != "" || n != i || e != c.want {
					t.Errorf("%s, delta %d: %q, %d, error %d, want %d", name, i, s, n, e, c.want)
				}
			}
		}
		for i, c := range []struct {
			basis string
			l     []api.Delta
			n     int
		}{
			{"another", l, 0}, {second, l, 0}, {"", l[:1], 0}, {first, l[1:], 0}, {first, []api.Delta{l[0], l[2]}, 1}, {first, []api.Delta{l[0], l[0]}, 1}, {first, []api.Delta{l[0], l[1], l[1]}, 2},
		} {
			if s, n, e := chain.Run(b, c.basis, c.l); s != "" || n != c.n || e != api.ErrBasis {
				t.Errorf("row %d: %q, %d, error %d, want %d", i, s, n, e, c.n)
			}
		}
		for _, other := range []*marks.Book{nil, {}, marks.Ideal()} {
			if s, n, e := chain.Run(other, first, l); s != "" || n != 0 || e != api.ErrBasis {
				t.Errorf("by another book: %q, %d, error %d", s, n, e)
			}
		}
	}
}

// 7.3: Same

func TestSame(t *testing.T) {
	for _, m := range []string{numbered(0), numbered(7), strings.Repeat("\xff", 32)} {
		for _, size := range []int{1, 2, 4096, 4097, api.MaxSource - 1, api.MaxSource} {
			want := api.Delta{Basis: m, Mark: m, Size: size, Steps: []api.Step{part(0, size)}}
			if d, e := chain.Same(m, size); !same(d, want) || e != api.OK || !delta.Right(d) {
				t.Errorf("size %d: %v, error %d", size, d, e)
			}
		}
		if d, e := chain.Same(m, 0); !same(d, api.Delta{Basis: m, Mark: m}) || e != api.OK || !delta.Right(d) {
			t.Errorf("size 0: %v, error %d", d, e)
		}
		for _, size := range []int{-1, math.MinInt, api.MaxSource + 1, 1 << 32, math.MaxInt} {
			if d, e := chain.Same(m, size); !zero(d) || e != api.ErrArg {
				t.Errorf("size %d: %v, error %d", size, d, e)
			}
		}
	}
	for _, m := range append(noMarks(), strings.Repeat("x", 1000)) {
		for _, size := range []int{-1, 0, 1, api.MaxSource, api.MaxSource + 1} {
			if d, e := chain.Same(m, size); !zero(d) || e != api.ErrArg {
				t.Errorf("mark of %d bytes, size %d: %v, error %d", len(m), size, d, e)
			}
		}
	}
}

func TestSameLeavesAsItIs(t *testing.T) {
	for _, b := range []*marks.Book{marks.Ideal(), marks.Real()} {
		for _, s := range []string{"", "x", strings.Repeat("xy", api.MaxSource/2)} {
			d, e := chain.Same(b.Mark(s), len(s))
			if e != api.OK {
				t.Fatalf("%d bytes: error %d", len(s), e)
			}
			if got, n, e := chain.Run(b, s, []api.Delta{d, d, d}); got != s || n != 3 || e != api.OK {
				t.Errorf("%d bytes: %d bytes, %d, error %d", len(s), len(got), n, e)
			}
			if got, n, e := chain.Run(b, s+"z", []api.Delta{d}); got != "" || n != 0 || e != api.ErrBasis {
				t.Errorf("of another text: %d bytes, %d, error %d", len(got), n, e)
			}
		}
	}
	a := between(1, 2, part(3, 2), text("ab"))
	ahead, _ := chain.Same(a.Basis, 9)
	behind, _ := chain.Same(a.Mark, a.Size)
	if d, e := chain.Fold([]api.Delta{ahead, ahead, a, behind, behind}); !same(d, a) || e != api.OK {
		t.Errorf("among others: %v, error %d", d, e)
	}
}

// 7.4

func TestFoldDoesWhatRunDoes(t *testing.T) {
	chance := rand.New(rand.NewSource(5))
	for round := range 400 {
		b := marks.Ideal()
		if round%4 == 0 {
			b = marks.Real()
		}
		texts, l := row(t, chance, b, 1+chance.Intn(8))
		last := texts[len(texts)-1]
		s, n, e := chain.Run(b, texts[0], l)
		if s != last || n != len(l) || e != api.OK {
			t.Fatalf("round %d: %d bytes, %d, error %d", round, len(s), n, e)
		}
		d, e := chain.Fold(l)
		if e != api.OK || !delta.Right(d) || !slices.Equal(d.Steps, chain.Tidy(d.Steps)) {
			t.Fatalf("round %d: %v, error %d", round, d, e)
		}
		if s, e := delta.Run(texts[0], d.Steps); s != last || e != api.OK {
			t.Fatalf("round %d: %d bytes, error %d, want %d", round, len(s), e, len(last))
		}
		if s, e := delta.Apply(b, texts[0], d); s != last || e != api.OK {
			t.Fatalf("round %d, with marks: %d bytes, error %d, want %d", round, len(s), e, len(last))
		}
		// However a row is cut, its pieces' deltas do the same.
		k := 1 + chance.Intn(len(l))
		head, _ := chain.Fold(l[:k])
		if k < len(l) {
			tail, _ := chain.Fold(l[k:])
			if c, e := chain.Compose(head, tail); !same(c, d) || e != api.OK {
				t.Fatalf("round %d, cut at %d: %v, error %d, want %v", round, k, c, e, d)
			}
		}
	}
}

// What is handed in stays as it is, behind the lists' ends too, and is not kept (R3).
func TestMemory(t *testing.T) {
	memory := []byte(numbered(1) + numbered(2) + numbered(3) + "abcdefgh")
	at := func(from, n int) string { return unsafe.String(&memory[from], n) }
	first := []api.Step{part(0, 4), part(4, 2), text(at(96, 4)), text("behind")}
	second := []api.Step{part(5, 3), text(at(100, 4)), part(0, 1), text("behind")}
	l := []api.Delta{
		{Basis: at(0, 32), Mark: at(32, 32), Size: 10, Steps: first[:3]},
		{Basis: at(32, 32), Mark: at(64, 32), Size: 8, Steps: second[:3]},
		{Basis: "behind"},
	}
	want := between(1, 3, part(5, 1), text("abefgh"), part(0, 1))
	made, e := chain.Compose(l[0], l[1])
	fold, f := chain.Fold(l[:2])
	one, g := chain.Fold(l[:1])
	stays, h := chain.Same(at(32, 32), 4)
	if e != api.OK || f != api.OK || g != api.OK || h != api.OK {
		t.Fatalf("errors %d, %d, %d, %d", e, f, g, h)
	}
	if !slices.Equal(first, []api.Step{part(0, 4), part(4, 2), text("abcd"), text("behind")}) || !slices.Equal(second, []api.Step{part(5, 3), text("efgh"), part(0, 1), text("behind")}) || l[2].Basis != "behind" {
		t.Errorf("what was handed in was changed: %v, %v, %v", first, second, l[2])
	}
	clear(memory)
	if !same(made, want) || !same(fold, want) || !same(one, between(1, 2, part(0, 6), text("abcd"))) || !same(stays, between(2, 2, part(0, 4))) {
		t.Errorf("an answer shares memory with what was handed in: %v, %v, %v, %v", made, fold, one, stays)
	}
}
