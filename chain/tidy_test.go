package chain_test

import (
	"math"
	"math/rand"
	"slices"
	"strings"
	"testing"
	"unsafe"

	"barque/api"
	"barque/chain"
	"barque/delta"
)

// text is a step of a text, part a copy.
func text(s string) api.Step { return api.Step{Text: s} }

func part(at, n int) api.Step { return api.Step{At: at, Len: n} }

// from is where a byte was taken: at a place of the basis, or of a text (At is -1 then).
type from struct {
	at   int
	byte byte
}

// bytesOf are the bytes that steps make, each from where they take it.
func bytesOf(l []api.Step) []from {
	var made []from
	for _, x := range l {
		for i := range len(x.Text) {
			made = append(made, from{-1, x.Text[i]})
		}
		if x.Text == "" {
			for i := range max(x.Len, 0) {
				made = append(made, from{at: x.At + i})
			}
		}
	}
	return made
}

// stepsOf are tidy steps that take bytes from there, as the document tells them: one by one.
func stepsOf(made []from) []api.Step {
	var l []api.Step
	for _, f := range made {
		k := len(l) - 1
		switch {
		case f.at < 0 && k >= 0 && l[k].Text != "" && len(l[k].Text) < 4096:
			l[k].Text += string([]byte{f.byte})
		case f.at < 0:
			l = append(l, text(string([]byte{f.byte})))
		case k >= 0 && l[k].Text == "" && l[k].At+l[k].Len == f.at:
			l[k].Len++
		default:
			l = append(l, part(f.at, 1))
		}
	}
	return l
}

// untidy are steps of any kind that may be, on a basis of n bytes; some follow on one another.
func untidy(chance *rand.Rand, n, count int) []api.Step {
	var l []api.Step
	at := 0
	for range count {
		switch k := chance.Intn(8); {
		case k < 3 || n == 0:
			l = append(l, text(strings.Repeat(string(rune('a'+chance.Intn(26))), 1+chance.Intn(3))))
			continue
		case k < 5 || at >= n:
			at = chance.Intn(n)
		}
		x := part(at, 1+chance.Intn(min(n-at, 9)))
		l = append(l, x)
		at += x.Len
	}
	return l
}

// 7.1

func TestTidy(t *testing.T) {
	z := func(n int) string { return strings.Repeat("z", n) }
	for _, c := range []struct {
		name    string
		l, want []api.Step
	}{
		{"nothing", nil, nil},
		{"no steps", []api.Step{}, nil},
		{"the document's", []api.Step{text("a"), text("b"), part(0, 4), part(4, 2)}, []api.Step{text("ab"), part(0, 6)}},
		{"tidy ones", []api.Step{part(3, 4), text("x"), part(7, 1), part(9, 1)}, []api.Step{part(3, 4), text("x"), part(7, 1), part(9, 1)}},
		{"a text between", []api.Step{part(0, 4), text("x"), part(4, 2)}, []api.Step{part(0, 4), text("x"), part(4, 2)}},
		{"a copy between", []api.Step{text("a"), part(0, 1), text("b")}, []api.Step{text("a"), part(0, 1), text("b")}},
		{"many", []api.Step{part(1, 1), part(2, 2), part(4, 4), text("a"), text("b"), text("c"), part(8, 1), part(9, 1), text("d")}, []api.Step{part(1, 7), text("abc"), part(8, 2), text("d")}},
		{"a place is left out", []api.Step{part(0, 4), part(5, 1)}, []api.Step{part(0, 4), part(5, 1)}},
		{"a place is taken twice", []api.Step{part(0, 4), part(3, 1)}, []api.Step{part(0, 4), part(3, 1)}},
		{"the same copy", []api.Step{part(0, 4), part(0, 4)}, []api.Step{part(0, 4), part(0, 4)}},
		{"the one that follows comes first", []api.Step{part(4, 2), part(0, 4)}, []api.Step{part(4, 2), part(0, 4)}},
		{"as after one that is longer", []api.Step{part(0, 2), part(2, 2), part(2, 2), part(4, 2)}, []api.Step{part(0, 4), part(2, 4)}},

		{"steps of nothing", []api.Step{{}, part(5, 0), part(0, -1), part(5, math.MinInt), part(-1, 0), part(math.MinInt, math.MinInt)}, nil},
		{"nothing between copies", []api.Step{{}, part(0, 4), {}, part(9, 0), part(4, -4), part(4, 2), {}}, []api.Step{part(0, 6)}},
		{"nothing between texts", []api.Step{part(7, 0), text("a"), {}, part(3, 0), part(3, -3), text("b"), part(1, -1)}, []api.Step{text("ab")}},
		{"nothing between both", []api.Step{part(0, 4), part(4, 0), text("a"), part(4, 0), part(4, 2)}, []api.Step{part(0, 4), text("a"), part(4, 2)}},

		{"texts with At and Len", []api.Step{{Text: "a", At: 7, Len: 9}, {Text: "b", Len: -1}, {Text: "c", At: -1}}, []api.Step{text("abc")}},
		{"a text that ends where a copy begins", []api.Step{{Text: "a", At: 0, Len: 4}, part(4, 2)}, []api.Step{text("a"), part(4, 2)}},
		{"a text that begins where a copy ends", []api.Step{part(0, 4), {Text: "a", At: 4, Len: 2}, part(6, 1), part(4, 2)}, []api.Step{part(0, 4), text("a"), part(6, 1), part(4, 2)}},

		{"a whole text", []api.Step{text(z(4096))}, []api.Step{text(z(4096))}},
		{"a text too long", []api.Step{text(z(4097))}, []api.Step{text(z(4096)), text("z")}},
		{"a text of many", []api.Step{text(z(3*4096 + 5))}, []api.Step{text(z(4096)), text(z(4096)), text(z(4096)), text(z(5))}},
		{"texts of one", []api.Step{text(z(4000)), text(z(96))}, []api.Step{text(z(4096))}},
		{"texts of more", []api.Step{text(z(4000)), text(z(97)), text("y")}, []api.Step{text(z(4096)), text("zy")}},
		{"texts that were cut too early", []api.Step{text(z(4095)), text(z(4096)), text(z(4096)), part(0, 1), text("a")}, []api.Step{text(z(4096)), text(z(4096)), text(z(4095)), part(0, 1), text("a")}},
		{"texts of just two", []api.Step{text(z(1)), text(z(4096)), text(z(4095)), part(0, 1)}, []api.Step{text(z(4096)), text(z(4096)), part(0, 1)}},
		{"texts of both sides", []api.Step{text(z(4000)), part(0, 1), text(z(4000)), text("y")}, []api.Step{text(z(4000)), part(0, 1), text(z(4000) + "y")}},
	} {
		if l := chain.Tidy(c.l); !slices.Equal(l, c.want) {
			t.Errorf("%s: %.200v, want %.200v", c.name, l, c.want)
		}
	}
}

// Copies that may not be are copies all the same: none is made longer than a number may be, and no sum wraps.
func TestTidyOfAnyNumbers(t *testing.T) {
	for _, c := range []struct{ l, want []api.Step }{
		{[]api.Step{part(-5, 5), part(0, 3)}, []api.Step{part(-5, 8)}},
		{[]api.Step{part(-5, 2), part(-3, 3), part(1, 1)}, []api.Step{part(-5, 5), part(1, 1)}},
		{[]api.Step{part(0, api.MaxSource), part(api.MaxSource, 1)}, []api.Step{part(0, api.MaxSource+1)}},
		{[]api.Step{part(math.MaxInt, 1), part(math.MinInt, 1)}, []api.Step{part(math.MaxInt, 1), part(math.MinInt, 1)}},
		{[]api.Step{part(2, math.MaxInt), part(math.MinInt+1, 1)}, []api.Step{part(2, math.MaxInt), part(math.MinInt+1, 1)}},
		{[]api.Step{part(math.MinInt, math.MaxInt), part(-1, 1)}, []api.Step{part(math.MinInt, math.MaxInt), part(-1, 1)}},
		{[]api.Step{part(math.MinInt, 1), part(math.MinInt+1, 2)}, []api.Step{part(math.MinInt, 3)}},
		{[]api.Step{part(0, math.MaxInt), part(math.MaxInt, 1), part(math.MaxInt, 2)}, []api.Step{part(0, math.MaxInt), part(math.MaxInt, 1), part(math.MaxInt, 2)}},
		{[]api.Step{part(0, math.MaxInt-1), part(math.MaxInt-1, 1)}, []api.Step{part(0, math.MaxInt)}},
		{[]api.Step{part(math.MinInt, 5), part(math.MaxInt, 5)}, []api.Step{part(math.MinInt, 5), part(math.MaxInt, 5)}},
	} {
		if l := chain.Tidy(c.l); !slices.Equal(l, c.want) {
			t.Errorf("%v: %v, want %v", c.l, l, c.want)
		}
	}
}

func TestTidyOfAnySteps(t *testing.T) {
	chance := rand.New(rand.NewSource(1))
	basis := strings.Repeat("0123456789", 6)
	for round := range 3000 {
		l := untidy(chance, chance.Intn(61), chance.Intn(30))
		for range chance.Intn(4) {
			l = slices.Insert(l, chance.Intn(len(l)+1), part(chance.Intn(9)-3, -chance.Intn(3)))
		}
		tidy := chain.Tidy(l)
		if want := stepsOf(bytesOf(l)); !slices.Equal(tidy, want) {
			t.Fatalf("round %d: %v: %v, want %v", round, l, tidy, want)
		}
		if again := chain.Tidy(tidy); !slices.Equal(again, tidy) {
			t.Fatalf("round %d: %v is tidy, and becomes %v", round, tidy, again)
		}
		l = slices.DeleteFunc(l, func(x api.Step) bool { return x.Text == "" && x.Len <= 0 })
		want, _ := delta.Run(basis, l)
		if s, e := delta.Run(basis, tidy); s != want || e != api.OK {
			t.Fatalf("round %d: %q, error %d, want %q", round, s, e, want)
		}
	}
}

func TestTidyOfLongTexts(t *testing.T) {
	chance := rand.New(rand.NewSource(2))
	for round := range 50 {
		var l []api.Step
		for range chance.Intn(12) {
			l = append(l, text(strings.Repeat(string(rune('a'+chance.Intn(26))), 1+chance.Intn(6000))))
			if chance.Intn(4) == 0 {
				l = append(l, part(chance.Intn(3), 1))
			}
		}
		if tidy, want := chain.Tidy(l), stepsOf(bytesOf(l)); !slices.Equal(tidy, want) {
			t.Fatalf("round %d: %d steps, want %d", round, len(tidy), len(want))
		}
	}
}

// What is handed in stays as it is, behind the list's end too, and is not kept (R3).
func TestTidyMemory(t *testing.T) {
	memory := []byte("abcd")
	room := []api.Step{part(0, 4), part(4, 2), text(unsafe.String(&memory[0], 2)), text("!"), {}, part(9, 1), part(10, 1), part(11, 1), text("behind")}
	before := slices.Clone(room)
	before[2].Text = "ab"
	for _, n := range []int{1, 2, 3, 8} {
		tidy := chain.Tidy(room[:n])
		want := slices.Clone(tidy)
		if !slices.Equal(room, before) {
			t.Fatalf("of %d: %v, want %v", n, room, before)
		}
		for i := range tidy[:cap(tidy)] {
			tidy[:cap(tidy)][i] = text("?")
		}
		if l := chain.Tidy(room[:n]); !slices.Equal(l, want) || !slices.Equal(room, before) {
			t.Fatalf("of %d, behind a change to the answer: %v, want %v", n, l, want)
		}
	}
	tidy := chain.Tidy(room[:3])
	copy(memory, "other")
	if !slices.Equal(tidy, []api.Step{part(0, 6), text("ab")}) {
		t.Errorf("the answer shares memory with what was handed in: %v", tidy)
	}
}
