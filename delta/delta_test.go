package delta_test

import (
	"encoding/binary"
	"math"
	"math/rand"
	"slices"
	"strings"
	"testing"
	"unsafe"

	"barque/api"
	"barque/delta"
	"barque/marks"
	"barque/sign"
)

// numbered is an ideal book's mark of a number.
func numbered(n int) string {
	return string(binary.LittleEndian.AppendUint64(nil, uint64(n))) + strings.Repeat("\x00", 24)
}

// text is a step of a text, part a copy.
func text(s string) api.Step { return api.Step{Text: s} }

func part(at, n int) api.Step { return api.Step{At: at, Len: n} }

// some is n bytes of so many kinds.
func some(chance *rand.Rand, n, kinds int) string {
	b := make([]byte, n)
	for i := range b {
		b[i] = byte('a' + chance.Intn(kinds))
	}
	return string(b)
}

// turned is a text of pieces of another one, in any order, with bytes between them; its end is often the other one's.
func turned(chance *rand.Rand, s string) string {
	t := ""
	for range chance.Intn(6) {
		from := chance.Intn(len(s) + 1)
		t += s[from:from+chance.Intn(len(s)-from+1)] + some(chance, chance.Intn(4)*chance.Intn(20), 26)
	}
	if chance.Intn(2) == 0 {
		t += s[chance.Intn(len(s)+1):]
	}
	return t
}

// zero tells whether a delta is the zero one.
func zero(d api.Delta) bool {
	return d.Basis == "" && d.Mark == "" && d.Size == 0 && len(d.Steps) == 0
}

// same tells whether two deltas are alike.
func same(d, c api.Delta) bool {
	return d.Basis == c.Basis && d.Mark == c.Mark && d.Size == c.Size && slices.Equal(d.Steps, c.Steps)
}

// of is the delta of two texts, which must have one.
func of(t *testing.T, b *marks.Book, basis, s string, block int) api.Delta {
	t.Helper()
	d, e := delta.Of(b, basis, s, block)
	if e != api.OK {
		t.Fatalf("%d bytes of %d, blocks of %d: error %d", len(s), len(basis), block, e)
	}
	return d
}

// steps is a delta of such steps, and of any marks: it may be, if they may.
func steps(l ...api.Step) api.Delta {
	d := api.Delta{Basis: numbered(1), Mark: numbered(2), Steps: l}
	for _, x := range l {
		d.Size += x.Len + len(x.Text)
	}
	return d
}

// rightSteps are steps that may be.
func rightSteps() []api.Step {
	return []api.Step{
		text("x"), text(strings.Repeat("x", api.MaxLiteral)), part(0, 1), part(5, 3), part(0, api.MaxSource), part(api.MaxSource-1, 1), part(1, api.MaxSource-1),
	}
}

// wrongSteps are steps that may not be.
func wrongSteps() map[string]api.Step {
	return map[string]api.Step{
		"nothing":                        {},
		"a text that is too long":        text(strings.Repeat("x", api.MaxLiteral+1)),
		"a text and At":                  {Text: "x", At: 1},
		"a text and Len":                 {Text: "x", Len: 1},
		"a text and a copy":              {Text: "x", At: 1, Len: 1},
		"a text and At below 0":          {Text: "x", At: -1},
		"a text and Len below 0":         {Text: "x", Len: -1},
		"Len 0":                          part(5, 0),
		"Len below 0":                    part(5, -1),
		"the least Len":                  part(5, math.MinInt),
		"the least Len and At":           part(math.MinInt, math.MinInt),
		"At below 0":                     part(-1, 1),
		"At below 0, a long copy":        part(-1, api.MaxSource),
		"At below 0, together none":      part(-5, 5),
		"the least At":                   part(math.MinInt, 1),
		"the least At, the greatest Len": part(math.MinInt, math.MaxInt),
		"Len too great":                  part(0, api.MaxSource+1),
		"At too great":                   part(api.MaxSource, 1),
		"both too great together":        part(1, api.MaxSource),
		"the greatest Len":               part(0, math.MaxInt),
		"the greatest Len and At":        part(math.MaxInt, math.MaxInt),
		"the greatest At":                part(math.MaxInt, 1),
		"together 2^63":                  part(1<<62, 1<<62),
		"together 2^64":                  part(1, math.MaxInt),
	}
}

// wrong are deltas that may not be, each for one cause, and the cause.
func wrong() map[string]api.Delta {
	m := map[string]api.Delta{"the zero one": {}}
	but := func(cause string, turn func(d *api.Delta)) {
		d := steps(part(0, 16), text("abc"), part(16, 4))
		turn(&d)
		m[cause] = d
	}
	for name, mark := range map[string]string{"empty": "", "short": numbered(1)[:31], "long": numbered(1) + "\x00", "twice": numbered(1) + numbered(1)} {
		but("basis "+name, func(d *api.Delta) { d.Basis = mark })
		but("mark "+name, func(d *api.Delta) { d.Mark = mark })
	}
	for name, n := range map[string]int{"0": 0, "-1": -1, "22": 22, "24": 24, "least": math.MinInt, "greatest": math.MaxInt} {
		but("size "+name, func(d *api.Delta) { d.Size = n })
	}
	but("no steps", func(d *api.Delta) { d.Steps = nil })
	but("no size and no steps, -1", func(d *api.Delta) { d.Size, d.Steps = -1, nil })
	but("a step less", func(d *api.Delta) { d.Steps = d.Steps[:2] })
	but("a step more", func(d *api.Delta) { d.Steps = append(d.Steps, text("x")) })
	but("too much", func(d *api.Delta) { *d = steps(part(0, api.MaxSource), text("x")) })
	but("too much, and the greatest size", func(d *api.Delta) {
		*d = steps(part(0, api.MaxSource), text("x"))
		d.Size = api.MaxSource
	})
	for name, x := range wrongSteps() {
		for i := range 3 {
			but("step "+string(rune('0'+i))+": "+name, func(d *api.Delta) {
				d.Size += x.Len + len(x.Text) - d.Steps[i].Len - len(d.Steps[i].Text)
				d.Steps[i] = x
			})
		}
		but("beside others: "+name, func(d *api.Delta) { d.Steps = append(d.Steps, x) })
	}
	return m
}

// 6.2

func TestRun(t *testing.T) {
	const basis = "0123456789"
	for _, c := range []struct {
		l    []api.Step
		want string
	}{
		{nil, ""}, {[]api.Step{}, ""},
		{[]api.Step{text("ab")}, "ab"},
		{[]api.Step{part(0, 10)}, basis},
		{[]api.Step{part(9, 1)}, "9"},
		{[]api.Step{part(3, 4), text("x"), part(0, 2), part(0, 2), text("y"), text("z")}, "3456x0101yz"},
		{[]api.Step{part(5, 5), part(0, 5)}, "5678901234"},
	} {
		if s, e := delta.Run(basis, c.l); s != c.want || e != api.OK {
			t.Errorf("%v: %q, error %d, want %q", c.l, s, e, c.want)
		}
	}
	if s, e := delta.Run("", []api.Step{text("x"), text("y")}); s != "xy" || e != api.OK {
		t.Errorf("of no basis: %q, error %d", s, e)
	}
	for _, x := range rightSteps() {
		if s, e := delta.Run(strings.Repeat("b", api.MaxSource), []api.Step{x}); len(s) != x.Len+len(x.Text) || e != api.OK {
			t.Errorf("At %d, Len %d, %d bytes: %d bytes, error %d", x.At, x.Len, len(x.Text), len(s), e)
		}
	}
}

func TestRunRefused(t *testing.T) {
	const basis = "0123456789"
	for name, x := range wrongSteps() {
		for _, of := range []string{"", basis, strings.Repeat("b", api.MaxSource+100)} {
			for _, l := range [][]api.Step{{x}, {text("x"), x}, {x, text("x")}, {x, x}} {
				if s, e := delta.Run(of, l); s != "" || e != api.ErrRange {
					t.Errorf("%s, of %d bytes: %d bytes, error %d", name, len(of), len(s), e)
				}
			}
		}
	}
	for _, x := range []api.Step{part(0, 11), part(9, 2), part(10, 1), part(11, 1), part(api.MaxSource-1, 1), part(0, api.MaxSource)} {
		for _, l := range [][]api.Step{{x}, {part(0, 10), x}, {x, text("x")}} {
			if s, e := delta.Run(basis, l); s != "" || e != api.ErrRange {
				t.Errorf("At %d, Len %d beyond 10 bytes: %q, error %d", x.At, x.Len, s, e)
			}
		}
	}
	if s, e := delta.Run("", []api.Step{part(0, 1)}); s != "" || e != api.ErrRange {
		t.Errorf("of no basis: %q, error %d", s, e)
	}
}

func TestRunTooMuch(t *testing.T) {
	basis := strings.Repeat("b", api.MaxSource)
	all, bad, beyond := part(0, api.MaxSource), part(0, 0), part(1, api.MaxSource-1)
	long := slices.Repeat([]api.Step{text(strings.Repeat("x", api.MaxLiteral))}, api.MaxSource/api.MaxLiteral)
	for i, c := range []struct {
		basis string
		l     []api.Step
		n     int
		want  api.Errno
	}{
		{basis, []api.Step{all}, api.MaxSource, api.OK},
		{basis, []api.Step{part(0, api.MaxSource-1), text("x")}, api.MaxSource, api.OK},
		{basis, long, api.MaxSource, api.OK},
		{basis, []api.Step{all, text("x")}, 0, api.ErrLong},
		{basis, []api.Step{text("x"), all}, 0, api.ErrLong},
		{basis, []api.Step{all, all}, 0, api.ErrLong},
		{basis, append(slices.Clone(long), part(0, 1)), 0, api.ErrLong},
		{basis, append(slices.Clone(long), text("x")), 0, api.ErrLong},
		// Step by step: the first one that is refused tells why.
		{basis, []api.Step{all, text("x"), bad}, 0, api.ErrLong},
		{basis, []api.Step{all, bad, text("x")}, 0, api.ErrRange},
		{basis, []api.Step{bad, all, all}, 0, api.ErrRange},
		{basis[1:], []api.Step{beyond, all, all}, 0, api.ErrRange},
		{basis[1:], []api.Step{part(0, api.MaxSource-1), beyond}, 0, api.ErrRange},
		{basis[1:], []api.Step{part(0, api.MaxSource-1), part(0, 2), beyond}, 0, api.ErrLong},
		// A basis may be longer than what copies reach.
		{basis + "more", []api.Step{all}, api.MaxSource, api.OK},
		{basis + "more", []api.Step{part(api.MaxSource, 1)}, 0, api.ErrRange},
	} {
		if s, e := delta.Run(c.basis, c.l); len(s) != c.n || e != c.want {
			t.Errorf("row %d: %d bytes, error %d, want %d, %d", i, len(s), e, c.n, c.want)
		}
	}
}

func TestApply(t *testing.T) {
	for _, b := range []*marks.Book{marks.Ideal(), marks.Real()} {
		const basis, s = "0123456789abcdef", "89ab-0123"
		d := api.Delta{Basis: b.Mark(basis), Mark: b.Mark(s), Size: 9, Steps: []api.Step{part(8, 4), text("-"), part(0, 4)}}
		if got, e := delta.Apply(b, basis, d); got != s || e != api.OK {
			t.Errorf("%q, error %d", got, e)
		}
		but := func(turn func(d *api.Delta)) api.Delta {
			c := d
			c.Steps = slices.Clone(d.Steps)
			turn(&c)
			return c
		}
		mayNot := func(d *api.Delta) { d.Size++ }
		beyond := func(d *api.Delta) { d.Steps[0].At = 13 }
		other := func(d *api.Delta) { d.Steps[0].At = 7 }
		for _, c := range []struct {
			name, basis string
			d           api.Delta
			want        api.Errno
		}{
			{"may not be", basis, but(mayNot), api.ErrArg},
			{"may not be, of another basis", "0123", but(mayNot), api.ErrArg},
			{"of another basis", "0123456789abcdeF", d, api.ErrBasis},
			{"of no basis", "", d, api.ErrBasis},
			{"of what it makes", s, d, api.ErrBasis},
			{"of a basis that is cut", basis[:15], d, api.ErrBasis},
			{"of another basis, beyond it", "0123", d, api.ErrBasis},
			{"another basis's mark", basis, but(func(d *api.Delta) { d.Basis = d.Mark }), api.ErrBasis},
			{"no text's mark", basis, but(func(d *api.Delta) { d.Basis = strings.Repeat("\xff", 32) }), api.ErrBasis},
			{"beyond the basis", basis, but(beyond), api.ErrRange},
			{"another copy", basis, but(other), api.ErrSum},
			{"another text", basis, but(func(d *api.Delta) { d.Steps[1].Text = "+" }), api.ErrSum},
			{"another order", basis, but(func(d *api.Delta) { slices.Reverse(d.Steps) }), api.ErrSum},
			{"another text's mark", basis, but(func(d *api.Delta) { d.Mark = d.Basis }), api.ErrSum},
			{"no text's mark for what is made", basis, but(func(d *api.Delta) { d.Mark = strings.Repeat("\xff", 32) }), api.ErrSum},
			{"beyond, and another text's mark", basis, but(func(d *api.Delta) { beyond(d); d.Mark = d.Basis }), api.ErrRange},
		} {
			if got, e := delta.Apply(b, c.basis, c.d); got != "" || e != c.want {
				t.Errorf("%s: %q, error %d, want %d", c.name, got, e, c.want)
			}
		}
		for cause, d := range wrong() {
			if got, e := delta.Apply(b, basis, d); got != "" || e != api.ErrArg {
				t.Errorf("%s: %d bytes, error %d", cause, len(got), e)
			}
		}
	}
}

// Nothing becomes of nothing, and of anything.
func TestApplyToNothing(t *testing.T) {
	b := marks.Ideal()
	none, x := b.Mark(""), b.Mark("x")
	for _, c := range []struct {
		basis, s string
		d        api.Delta
	}{
		{"", "", api.Delta{Basis: none, Mark: none}}, {"x", "", api.Delta{Basis: x, Mark: none}},
		{"", "x", api.Delta{Basis: none, Mark: x, Size: 1, Steps: []api.Step{text("x")}}}, {"x", "x", api.Delta{Basis: x, Mark: x, Size: 1, Steps: []api.Step{part(0, 1)}}},
	} {
		if s, e := delta.Apply(b, c.basis, c.d); s != c.s || e != api.OK {
			t.Errorf("%q of %q: %q, error %d", c.s, c.basis, s, e)
		}
	}
}

// A book that is not ready has marked neither; an ideal one that has not marked the texts knows no mark of them, and marks nothing.
func TestApplyByAnotherBook(t *testing.T) {
	b := marks.Ideal()
	d := of(t, b, "basis", "s", 16)
	for i, other := range []*marks.Book{nil, {}, marks.Real(), marks.Ideal()} {
		if s, e := delta.Apply(other, "basis", d); s != "" || e != api.ErrBasis {
			t.Errorf("book %d: %q, error %d", i, s, e)
		}
	}
	other := marks.Ideal()
	d = api.Delta{Basis: other.Mark("basis"), Mark: numbered(2), Size: 1, Steps: []api.Step{text("s")}}
	if s, e := delta.Apply(other, "not marked", d); s != "" || e != api.ErrBasis {
		t.Errorf("of a basis that was not marked: %q, error %d", s, e)
	}
	// Though its number would be just that.
	if s, e := delta.Apply(other, "basis", d); s != "" || e != api.ErrSum {
		t.Errorf("of a text that was not marked: %q, error %d", s, e)
	}
	if m := other.Mark("next"); m != numbered(2) {
		t.Errorf("what came behind: %x", m)
	}
}

func TestSent(t *testing.T) {
	for _, c := range []struct {
		l    []api.Step
		want int
	}{
		{nil, 0}, {[]api.Step{}, 0}, {[]api.Step{part(0, 100)}, 0}, {[]api.Step{text("abc")}, 3}, {[]api.Step{text("abc"), part(0, 5), text("x"), text("")}, 4},
		// Steps that may not be have texts too.
		{[]api.Step{{Text: "abc", At: 7, Len: 9}, part(-1, -5), text(strings.Repeat("x", 5000))}, 5003},
	} {
		if n := delta.Sent(c.l); n != c.want {
			t.Errorf("%v: %d, want %d", c.l, n, c.want)
		}
	}
}

// 6.3: Right

func TestRight(t *testing.T) {
	for _, x := range rightSteps() {
		if d := steps(x); !delta.Right(d) {
			t.Errorf("At %d, Len %d, %d bytes: may not be", x.At, x.Len, len(x.Text))
		}
	}
	for i, d := range []api.Delta{
		steps(), {Basis: numbered(0), Mark: strings.Repeat("\xff", 32), Steps: []api.Step{}},
		steps(part(0, 16), text("abc"), part(16, 4)), steps(text("a"), text("b"), part(0, 1), part(1, 1)),
		steps(part(0, api.MaxSource-1), text("x")), steps(slices.Repeat([]api.Step{part(7, 1)}, api.MaxSource)...),
		steps(slices.Repeat([]api.Step{text(strings.Repeat("x", api.MaxLiteral))}, api.MaxSource/api.MaxLiteral)...),
	} {
		if !delta.Right(d) {
			t.Errorf("delta %d may not be", i)
		}
	}
	for cause, d := range wrong() {
		if delta.Right(d) {
			t.Errorf("%s: may be", cause)
		}
	}
}

// What is handed in stays as it is, behind the lists' ends too (R3), and is not kept.
func TestMemory(t *testing.T) {
	b := marks.Real()
	memory := []byte("0123456789abcdef" + "ghij")
	s := unsafe.String(&memory[0], len(memory))
	basis := strings.Clone(s[:16])
	d := of(t, b, basis, s, 16)
	made, _ := delta.Run(s, []api.Step{part(0, 20)})
	l, _ := delta.Make(b, sigOf(t, b, basis, 16), s)
	clear(memory)
	if want := []api.Step{part(0, 16), text("ghij")}; !slices.Equal(l, want) || !slices.Equal(d.Steps, want) || made != basis+"ghij" {
		t.Errorf("an answer shares memory with what was handed in: %v, %v, %q", l, d.Steps, made)
	}
	room := append(slices.Clone(d.Steps), text("behind"))
	c := d
	c.Steps = room[:len(d.Steps)]
	delta.Right(c)
	delta.Bytes(c)
	delta.Apply(b, basis, c)
	delta.Run(basis, c.Steps)
	delta.Sent(c.Steps)
	if !slices.Equal(room, append(slices.Clone(d.Steps), text("behind"))) {
		t.Errorf("steps were changed: %v", room)
	}
	g := sigOf(t, b, basis+basis+"x", 16)
	weak, strong := append(slices.Clone(g.Weak), 5), append(slices.Clone(g.Strong), "behind")
	h := g
	h.Weak, h.Strong = weak[:len(g.Weak)], strong[:len(g.Strong)]
	delta.Make(b, h, basis+"y"+basis)
	if !slices.Equal(weak, append(slices.Clone(g.Weak), 5)) || !slices.Equal(strong, append(slices.Clone(g.Strong), "behind")) {
		t.Error("a signature was changed")
	}
}

// 6.4

func TestApplyOfOf(t *testing.T) {
	chance := rand.New(rand.NewSource(1))
	for round := range 1500 {
		b := marks.Ideal()
		if round%2 == 0 {
			b = marks.Real()
		}
		block := 16 + chance.Intn(20)
		basis := some(chance, chance.Intn(400), 1+chance.Intn(3))
		s := turned(chance, basis)
		d := of(t, b, basis, s, block)
		if !delta.Right(d) || delta.Sent(d.Steps) > len(s) {
			t.Fatalf("round %d: %v", round, d)
		}
		if made, e := delta.Apply(b, basis, d); made != s || e != api.OK {
			t.Fatalf("round %d: %d bytes, error %d, want %d", round, len(made), e, len(s))
		}
		if other := basis + "x"; other != s {
			if made, e := delta.Apply(b, other, d); made != "" || e != api.ErrBasis {
				t.Fatalf("round %d: of another basis: %d bytes, error %d", round, len(made), e)
			}
		}
	}
}

// What was sent as bytes, and what was bent on its way.
func TestApplyOfBytes(t *testing.T) {
	b := marks.Real()
	basis := "0123456789abcdefghijklmnopqrstuvwxyz"
	s := basis[16:32] + "!?" + basis[:16] + "+" + basis[32:]
	bytes, e := delta.Bytes(of(t, b, basis, s, 16))
	if e != api.OK {
		t.Fatal(e)
	}
	for i := range len(bytes) * 8 {
		bent := []byte(bytes)
		bent[i/8] ^= 1 << (i % 8)
		d, e := delta.Read(string(bent))
		if e != api.OK {
			continue
		}
		if made, e := delta.Apply(b, basis, d); made != "" || e == api.OK {
			t.Errorf("bit %d: %q, error %d", i, made, e)
		}
	}
}

func TestOfItselfNothingIsSent(t *testing.T) {
	chance := rand.New(rand.NewSource(2))
	for _, block := range []int{api.MinBlock, 17, 100, api.MaxBlock} {
		for _, n := range []int{0, 1, 2, 5, 30, api.MaxSource / block} {
			for _, kinds := range []int{1, 2, 26} {
				s := some(chance, n*block, kinds)
				d := of(t, marks.Ideal(), s, s, block)
				if delta.Sent(d.Steps) != 0 {
					t.Errorf("%d blocks of %d: %d bytes are sent", n, block, delta.Sent(d.Steps))
				}
			}
		}
	}
}

func TestOfTheLongest(t *testing.T) {
	chance := rand.New(rand.NewSource(3))
	for _, block := range []int{api.MinBlock, 1000, api.MaxBlock} {
		b := marks.Ideal()
		basis := some(chance, api.MaxSource, 200)
		for _, s := range []string{basis, basis[1:] + "x", some(chance, api.MaxSource, 200), basis[api.MaxSource/2:] + basis[:api.MaxSource/2], strings.Repeat("a", api.MaxSource)} {
			d := of(t, b, basis, s, block)
			if made, e := delta.Apply(b, basis, d); made != s || e != api.OK {
				t.Errorf("blocks of %d: %d bytes, error %d", block, len(made), e)
			}
		}
	}
}

// sigOf is a text's signature, which must have one.
func sigOf(t *testing.T, b *marks.Book, s string, block int) api.Sig {
	t.Helper()
	g, e := sign.Sign(b, s, block)
	if e != api.OK {
		t.Fatalf("%d bytes, blocks of %d: error %d", len(s), block, e)
	}
	return g
}
