package delta_test

import (
	"math"
	"math/rand"
	"slices"
	"strings"
	"testing"

	"barque/api"
	"barque/delta"
	"barque/marks"
	"barque/roll"
)

// Blocks of 16 bytes that are unlike, and what is in none of them.
const (
	x16   = "xXxxxxxxxxxxxxx1"
	y16   = "yYyyyyyyyyyyyyy2"
	z16   = "zZzzzzzzzzzzzzz3"
	other = "?"
)

// model is the steps for a text as the document tells them: blocks are held against it byte by byte.
func model(basis, s string, block int) (l []api.Step) {
	whole := len(basis) / block
	rest := basis[whole*block:]
	gathered, wanted := "", 0
	copied := func(at, n int) {
		for ; len(gathered) > 4096; gathered = gathered[4096:] {
			l = append(l, text(gathered[:4096]))
		}
		if gathered != "" {
			l = append(l, text(gathered))
		}
		gathered = ""
		if k := len(l) - 1; k >= 0 && l[k].Text == "" && l[k].At+l[k].Len == at {
			l[k].Len += n
		} else if n > 0 {
			l = append(l, part(at, n))
		}
	}
	for len(s) >= block {
		found := -1
		for i := range whole {
			if basis[i*block:i*block+block] == s[:block] && (found < 0 || i == wanted) {
				found = i
			}
		}
		if found < 0 {
			gathered += s[:1]
			s = s[1:]
			continue
		}
		copied(found*block, block)
		wanted = found + 1
		s = s[block:]
	}
	if rest != "" && strings.HasSuffix(s, rest) {
		gathered += strings.TrimSuffix(s, rest)
		copied(whole*block, len(rest))
		return l
	}
	gathered += s
	copied(-1, 0)
	return l
}

// 6.1

func TestMake(t *testing.T) {
	const tail = "tail"
	q := func(n int) string { return strings.Repeat(other, n) }
	for _, c := range []struct {
		name, basis, s string
		want           []api.Step
	}{
		{"nothing of nothing", "", "", nil},
		{"nothing of something", x16 + tail, "", nil},
		{"of nothing", "", "abc", []api.Step{text("abc")}},
		{"a block of nothing", "", x16, []api.Step{text(x16)}},
		{"itself", x16 + y16 + tail, x16 + y16 + tail, []api.Step{part(0, 36)}},
		{"itself, whole", x16 + y16, x16 + y16, []api.Step{part(0, 32)}},
		{"itself, shorter than a block", tail, tail, []api.Step{part(0, 4)}},
		{"one block", x16, x16, []api.Step{part(0, 16)}},
		{"another order", x16 + y16, y16 + x16, []api.Step{part(16, 16), part(0, 16)}},
		{"text ahead", x16 + y16, "ab" + x16 + y16, []api.Step{text("ab"), part(0, 32)}},
		{"text between", x16 + y16, x16 + "ab" + y16, []api.Step{part(0, 16), text("ab"), part(16, 16)}},
		{"text behind", x16 + y16, x16 + y16 + "ab", []api.Step{part(0, 32), text("ab")}},
		{"a byte less", x16 + y16, x16[1:] + y16, []api.Step{text(x16[1:]), part(16, 16)}},
		{"a byte less at the end", x16 + y16, x16 + y16[:15], []api.Step{part(0, 16), text(y16[:15])}},
		{"shorter than a block", x16, x16[:15], []api.Step{text(x16[:15])}},
		{"a whole text more, no block", x16, q(40), []api.Step{text(q(40))}},
		{"blocks only where blocks begin", x16 + y16, x16[8:] + y16[:8], []api.Step{text(x16[8:] + y16[:8])}},
		// Which of the blocks that are alike.
		{"the first, at first", x16 + x16 + x16, x16, []api.Step{part(0, 16)}},
		{"the first of them", y16 + x16 + x16, x16, []api.Step{part(16, 16)}},
		{"the one behind", x16 + x16 + x16, x16 + x16 + x16, []api.Step{part(0, 48)}},
		{"behind the last the first again", x16 + x16, x16 + x16 + x16, []api.Step{part(0, 32), part(0, 16)}},
		{"the one behind, not the first", x16 + y16 + x16 + z16, y16 + x16 + z16, []api.Step{part(16, 48)}},
		{"the one behind is another one: the first", x16 + y16 + x16 + z16, y16 + z16 + x16, []api.Step{part(16, 16), part(48, 16), part(0, 16)}},
		{"the one behind, behind a text", x16 + y16 + x16 + z16, y16 + other + x16 + z16, []api.Step{part(16, 16), text(other), part(32, 32)}},
		{"behind the one that was copied last, not the first", x16 + y16 + x16 + z16 + x16, x16 + z16 + x16, []api.Step{part(0, 16), part(48, 32)}},
		// Copies that are one, and those that are not.
		{"a text lies between", x16 + y16, x16 + other + y16, []api.Step{part(0, 16), text(other), part(16, 16)}},
		{"it begins where one ahead ended", x16 + y16 + z16, x16 + z16 + y16, []api.Step{part(0, 16), part(32, 16), part(16, 16)}},
		{"the same again", x16 + y16, x16 + x16, []api.Step{part(0, 16), part(0, 16)}},
		// The last block, which is not whole.
		{"alone", x16 + tail, tail, []api.Step{part(16, 4)}},
		{"behind its own", x16 + tail, x16 + tail, []api.Step{part(0, 20)}},
		{"behind another one", x16 + y16 + tail, x16 + tail, []api.Step{part(0, 16), part(32, 4)}},
		{"bytes ahead", x16 + tail, x16 + "ab" + tail, []api.Step{part(0, 16), text("ab"), part(16, 4)}},
		{"as many bytes ahead as may be", x16 + tail, q(11) + tail, []api.Step{text(q(11)), part(16, 4)}},
		{"more bytes ahead", x16 + tail, q(12) + tail, []api.Step{text(q(12)), part(16, 4)}},
		{"many bytes ahead", x16 + tail, q(100) + tail, []api.Step{text(q(100)), part(16, 4)}},
		{"not at the end", x16 + tail, tail + x16, []api.Step{text(tail), part(0, 16)}},
		{"bytes behind", x16 + tail, x16 + tail + "a", []api.Step{part(0, 16), text(tail + "a")}},
		{"twice", x16 + tail, tail + tail, []api.Step{text(tail), part(16, 4)}},
		{"cut", x16 + tail, x16 + "tai", []api.Step{part(0, 16), text("tai")}},
		{"its end", x16 + tail, x16 + "ail", []api.Step{part(0, 16), text("ail")}},
		{"bent", x16 + tail, x16 + "tall", []api.Step{part(0, 16), text("tall")}},
		{"of its weak sum", x16 + "\x01\x04\x01", x16 + "\x02\x02\x02", []api.Step{part(0, 16), text("\x02\x02\x02")}},
		{"it reaches into what was copied", x16 + "x1e", x16 + "e", []api.Step{part(0, 16), text("e")}},
		{"it lies in what was copied", x16 + "xx1", x16, []api.Step{part(0, 16)}},
		{"a byte less than a block", x16 + y16[:15], x16 + y16[:15], []api.Step{part(0, 31)}},
		{"a byte less, behind bytes", x16 + y16[:15], "ab" + y16[:15], []api.Step{text("ab"), part(16, 15)}},
		{"one byte", x16 + "t", other + "t", []api.Step{text(other), part(16, 1)}},
		{"no block is whole", tail, "ab" + tail, []api.Step{text("ab"), part(0, 4)}},
		{"no block is whole, long", tail, q(50) + tail, []api.Step{text(q(50)), part(0, 4)}},
	} {
		for _, b := range []*marks.Book{marks.Ideal(), marks.Real()} {
			g := sigOf(t, b, c.basis, 16)
			if l, e := delta.Make(b, g, c.s); !slices.Equal(l, c.want) || e != api.OK {
				t.Errorf("%s: %v, error %d, want %v", c.name, l, e, c.want)
			}
		}
		if l := model(c.basis, c.s, 16); !slices.Equal(l, c.want) {
			t.Errorf("%s: the model: %v, want %v", c.name, l, c.want)
		}
	}
}

// What is gathered is cut into texts of 4096 bytes, each but the last.
func TestMakeLongTexts(t *testing.T) {
	chance := rand.New(rand.NewSource(4))
	b := marks.Ideal()
	g := sigOf(t, b, x16+y16+"tail", 16)
	for _, n := range []int{1, 4095, 4096, 4097, 8191, 8192, 8193, 12288, 20000, api.MaxSource - 100} {
		s := some(chance, n, 10)
		var cut []api.Step
		for l := range slices.Chunk([]byte(s), 4096) {
			cut = append(cut, text(string(l)))
		}
		for i, c := range []struct {
			s    string
			want []api.Step
		}{
			{s, cut},
			{s + x16, slices.Concat(cut, []api.Step{part(0, 16)})},
			{x16 + s, slices.Concat([]api.Step{part(0, 16)}, cut)},
			{x16 + s + y16, slices.Concat([]api.Step{part(0, 16)}, cut, []api.Step{part(16, 16)})},
			{s + "tail", slices.Concat(cut, []api.Step{part(32, 4)})},
		} {
			if l, e := delta.Make(b, g, c.s); !slices.Equal(l, c.want) || e != api.OK {
				t.Errorf("%d bytes, %d: %d steps, error %d, want %d", n, i, len(l), e, len(c.want))
			}
		}
	}
}

// Whatever the texts are, the steps are those that the document tells.
func TestMakeOfAny(t *testing.T) {
	chance := rand.New(rand.NewSource(5))
	copies, tails := 0, 0
	for round := range 4000 {
		b := marks.Real()
		if round%2 == 0 {
			b = marks.Ideal()
		}
		block := 16 + chance.Intn(10)
		basis := some(chance, chance.Intn(200), 1+chance.Intn(3))
		if round%4 < 2 {
			kinds := []string{x16 + "0123456789"[:block-16], y16 + "abcdefghij"[:block-16]}
			basis = ""
			for range chance.Intn(8) {
				basis += kinds[chance.Intn(2)]
			}
			basis += kinds[0][:chance.Intn(block)]
		}
		s := turned(chance, basis)
		want := model(basis, s, block)
		if l, e := delta.Make(b, sigOf(t, b, basis, block), s); !slices.Equal(l, want) || e != api.OK {
			t.Fatalf("round %d: %q of %q, blocks of %d: %v, error %d, want %v", round, s, basis, block, l, e, want)
		}
		for _, x := range want {
			if x.Text == "" {
				copies++
			}
			if x.Text == "" && len(basis)%block > 0 && x.At+x.Len == len(basis) {
				tails++
			}
		}
	}
	if copies < 2000 || tails < 200 {
		t.Errorf("%d copies, %d of them to the end", copies, tails)
	}
}

// wrongSigs are signatures that may not be.
func wrongSigs(t *testing.T) map[string]api.Sig {
	right := sigOf(t, marks.Real(), x16+y16+"tail", 16)
	m := map[string]api.Sig{"the zero one": {}}
	but := func(cause string, turn func(g *api.Sig)) {
		g := right
		g.Weak, g.Strong = slices.Clone(g.Weak), slices.Clone(g.Strong)
		turn(&g)
		m[cause] = g
	}
	for _, n := range []int{0, -1, 15, 1025, math.MinInt, math.MaxInt} {
		but("a block", func(g *api.Sig) { g.Block = n })
		but("a block of nothing", func(g *api.Sig) { *g = api.Sig{Block: n} })
	}
	but("no such size", func(g *api.Sig) { g.Size = -1 })
	but("a block more", func(g *api.Sig) { g.Size = 49 })
	but("a sum less", func(g *api.Sig) { g.Weak = g.Weak[1:] })
	but("a mark less", func(g *api.Sig) { g.Strong = g.Strong[1:] })
	but("a sum too great", func(g *api.Sig) { g.Weak[2] = 1 << 32 })
	but("a sum below 0", func(g *api.Sig) { g.Weak[0] = -1 })
	but("a mark too short", func(g *api.Sig) { g.Strong[2] = g.Strong[2][1:] })
	but("an empty mark", func(g *api.Sig) { g.Strong[0] = "" })
	return m
}

func TestMakeRefused(t *testing.T) {
	b := marks.Ideal()
	long := strings.Repeat("a", api.MaxSource+1)
	for cause, g := range wrongSigs(t) {
		// The signature is looked at ahead of the text.
		for _, s := range []string{"", "abc", x16, long} {
			for _, b := range []*marks.Book{b, nil} {
				if l, e := delta.Make(b, g, s); len(l) != 0 || e != api.ErrArg {
					t.Errorf("%s, %d bytes: %d steps, error %d", cause, len(s), len(l), e)
				}
			}
		}
	}
	for _, basis := range []string{"", x16, strings.Repeat("a", 16)} {
		g := sigOf(t, b, basis, 16)
		for _, s := range []string{long, long + long} {
			if l, e := delta.Make(b, g, s); len(l) != 0 || e != api.ErrLong {
				t.Errorf("%d bytes: %d steps, error %d", len(s), len(l), e)
			}
		}
		if l, e := delta.Make(b, g, long[1:]); e != api.OK || len(l) == 0 {
			t.Errorf("%d bytes: %d steps, error %d", len(long)-1, len(l), e)
		}
	}
}

// A block is found by its weak sum, and then by its mark; what the signature says of another one does not matter.
func TestMakeBySumAndMark(t *testing.T) {
	b := marks.Ideal()
	m := b.Mark(x16)
	tail := b.Mark("tail")
	sum, end := roll.Sum(x16), roll.Sum("tail")
	s := x16 + "tail"
	for i, c := range []struct {
		g    api.Sig
		want []api.Step
	}{
		{api.Sig{Block: 16, Size: 20, Weak: []int{sum, end}, Strong: []string{m, tail}}, []api.Step{part(0, 20)}},
		{api.Sig{Block: 16, Size: 20, Weak: []int{sum + 1, end}, Strong: []string{m, tail}}, []api.Step{text(x16), part(16, 4)}},
		{api.Sig{Block: 16, Size: 20, Weak: []int{sum, end}, Strong: []string{tail, tail}}, []api.Step{text(x16), part(16, 4)}},
		{api.Sig{Block: 16, Size: 20, Weak: []int{sum, end}, Strong: []string{numbered(99), tail}}, []api.Step{text(x16), part(16, 4)}},
		{api.Sig{Block: 16, Size: 20, Weak: []int{sum, end + 1}, Strong: []string{m, tail}}, []api.Step{part(0, 16), text("tail")}},
		{api.Sig{Block: 16, Size: 20, Weak: []int{sum, end}, Strong: []string{m, m}}, []api.Step{part(0, 16), text("tail")}},
		{api.Sig{Block: 16, Size: 21, Weak: []int{sum, end}, Strong: []string{m, tail}}, []api.Step{part(0, 16), text("tail")}},
		{api.Sig{Block: 17, Size: 20, Weak: []int{sum, end}, Strong: []string{m, tail}}, []api.Step{text(s)}},
		// That block is another one by its sum, or by its mark: the first that is it.
		{api.Sig{Block: 16, Size: 48, Weak: []int{1, sum, sum}, Strong: []string{m, tail, m}}, []api.Step{part(32, 16), text("tail")}},
	} {
		if l, e := delta.Make(b, c.g, s); !slices.Equal(l, c.want) || e != api.OK {
			t.Errorf("row %d: %v, error %d, want %v", i, l, e, c.want)
		}
	}
}

// To make steps numbers no texts; a book that has not marked the blocks knows none of them.
func TestMakeMarksNothing(t *testing.T) {
	b := marks.Ideal()
	g := sigOf(t, b, x16+y16+"tail", 16)
	s := x16 + z16 + "more" + "tail"
	delta.Make(b, g, s)
	if m := b.Mark("next"); m != numbered(4) {
		t.Errorf("what came behind: %x", m)
	}
	for i, b := range []*marks.Book{nil, {}, marks.Ideal(), marks.Real()} {
		if l, e := delta.Make(b, g, s); !slices.Equal(l, []api.Step{text(s)}) || e != api.OK {
			t.Errorf("book %d: %v, error %d", i, l, e)
		}
	}
}

func TestOf(t *testing.T) {
	chance := rand.New(rand.NewSource(6))
	for round := range 500 {
		b := marks.Real()
		if round%2 == 0 {
			b = marks.Ideal()
		}
		block := 16 + chance.Intn(10)
		basis := some(chance, chance.Intn(200), 2)
		s := turned(chance, basis)
		d := of(t, b, basis, s, block)
		if d.Basis != b.Mark(basis) || d.Mark != b.Mark(s) || d.Size != len(s) || !slices.Equal(d.Steps, model(basis, s, block)) {
			t.Fatalf("round %d: %q of %q, blocks of %d: %v", round, s, basis, block, d)
		}
	}
	// The first example.
	s := "0123456789abcdefghijklmnopqrstuvwxyz+-*/"
	if d := of(t, marks.Ideal(), s, s, 16); d.Basis != d.Mark || d.Size != 40 || !slices.Equal(d.Steps, []api.Step{part(0, 40)}) {
		t.Errorf("a text and itself: %v", d)
	}
	if d := of(t, marks.Ideal(), "", "", 16); d.Basis != d.Mark || d.Basis != numbered(1) || d.Size != 0 || len(d.Steps) != 0 {
		t.Errorf("nothing: %v", d)
	}
}

func TestOfRefused(t *testing.T) {
	b := marks.Ideal()
	long := strings.Repeat("a", api.MaxSource+1)
	for _, c := range []struct {
		name, basis, s string
		block          int
		want           api.Errno
	}{
		{"block 0", "a", "a", 0, api.ErrArg}, {"block 15", "a", "a", 15, api.ErrArg}, {"block 1025", "a", "a", 1025, api.ErrArg}, {"block -16", "", "", -16, api.ErrArg},
		{"the least block", "a", "a", math.MinInt, api.ErrArg}, {"the greatest block", "a", "a", math.MaxInt, api.ErrArg},
		{"block 15, a long basis", long, "a", 15, api.ErrArg}, {"block 15, a long text", "a", long, 15, api.ErrArg},
		{"a long basis", long, "a", 16, api.ErrLong}, {"a long text", "a", long, 16, api.ErrLong}, {"a long text of nothing", "", long, 1024, api.ErrLong}, {"both long", long, long, 16, api.ErrLong},
	} {
		if d, e := delta.Of(b, c.basis, c.s, c.block); !zero(d) || e != c.want {
			t.Errorf("%s: %d steps, error %d, want %d", c.name, len(d.Steps), e, c.want)
		}
	}
	// What is refused has changed nothing.
	if m := b.Mark("next"); m != numbered(1) {
		t.Errorf("a text was marked: %x", m)
	}
	if d := of(t, b, long[1:], long[1:], 1024); !slices.Equal(d.Steps, []api.Step{part(0, api.MaxSource)}) {
		t.Errorf("as long as may be: %v", d.Steps)
	}
}

// By a book that is not ready a signature of any blocks may not be, which is Make's error; that of nothing may.
func TestOfByNoBook(t *testing.T) {
	long := strings.Repeat("a", api.MaxSource+1)
	for i, b := range []*marks.Book{nil, {}} {
		for _, s := range []string{"", "abc", x16, long} {
			if d, e := delta.Of(b, x16, s, 16); !zero(d) || e != api.ErrArg {
				t.Errorf("book %d: %v, error %d", i, d, e)
			}
		}
		if d, e := delta.Of(b, long, "abc", 16); !zero(d) || e != api.ErrLong {
			t.Errorf("book %d, a long basis: %v, error %d", i, d, e)
		}
		if d, e := delta.Of(b, "", long, 16); !zero(d) || e != api.ErrLong {
			t.Errorf("book %d, a long text: %v, error %d", i, d, e)
		}
		d, e := delta.Of(b, "", "abc", 16)
		if want := (api.Delta{Size: 3, Steps: []api.Step{text("abc")}}); !same(d, want) || e != api.OK || delta.Right(d) {
			t.Errorf("book %d, of nothing: %v, error %d", i, d, e)
		}
	}
}

// A long text that is all alike, and of a basis that is, is gone through in no time.
func TestMakeOfManyAlike(t *testing.T) {
	b := marks.Real()
	all := strings.Repeat("a", api.MaxSource)
	for _, c := range []struct {
		basis, s string
		steps    int
	}{
		{all, all, 1}, {all, strings.Repeat("b", api.MaxSource), api.MaxSource / api.MaxLiteral}, {all[:16], all, api.MaxSource / 16},
		{all, strings.Repeat("ab", api.MaxSource/2), api.MaxSource / api.MaxLiteral},
	} {
		if d := of(t, b, c.basis, c.s, 16); len(d.Steps) != c.steps {
			t.Errorf("%d steps, want %d", len(d.Steps), c.steps)
		}
	}
}
