package press_test

import (
	"encoding/binary"
	"math/rand"
	"strings"
	"testing"
	"unsafe"

	"barque/api"
	"barque/press"
)

// num is a number's bytes.
func num(n int) string { return string(binary.AppendUvarint(nil, uint64(n))) }

// text is what was gathered, part a copy, in a pressed text.
func text(s string) string { return num(2*len(s)) + s }

func part(n, back int) string { return num(2*(n-4)+1) + num(back-1) }

// twice tells a text again, as often.
func twice(s string, n int) string { return strings.Repeat(s, n) }

// some is n bytes of so many kinds.
func some(chance *rand.Rand, n, kinds int) string {
	b := make([]byte, n)
	for i := range b {
		b[i] = byte(chance.Intn(kinds))
	}
	return string(b)
}

// once is n bytes below 250 in which no four stand twice.
func once(t *testing.T, n int) string {
	t.Helper()
	chance := rand.New(rand.NewSource(8))
	s, seen := "", map[string]bool{}
	for len(s) < n {
		s += some(chance, 1, 250)
		if k := len(s) - 4; k >= 0 {
			if seen[s[k:]] {
				t.Fatalf("four bytes stand twice, at %d", k)
			}
			seen[s[k:]] = true
		}
	}
	return s
}

// woven is n bytes, of so many kinds, and of pieces that stand ahead in it, near and far.
func woven(chance *rand.Rand, n, kinds int) string {
	b := []byte(some(chance, 1+chance.Intn(5), kinds))
	for len(b) < n {
		if chance.Intn(3) == 0 {
			b = append(b, some(chance, 1+chance.Intn(6), kinds)...)
			continue
		}
		from := max(0, len(b)-1-chance.Intn(5000))
		for range 1 + chance.Intn(chance.Intn(400)+1) {
			b = append(b, b[from])
			from++
		}
	}
	return string(b[:n])
}

// plain is a text pressed as the document tells it: at each place all earlier ones are asked.
func plain(s string) string {
	p, gathered := num(len(s)), ""
	letGo := func() {
		if gathered != "" {
			p += text(gathered)
		}
		gathered = ""
	}
	for at := 0; at < len(s); {
		best, nearest := 0, 0
		for back := 1; back <= 4096 && back <= at; back++ {
			n := 0
			for n < 259 && at+n < len(s) && s[at+n] == s[at+n-back] {
				n++
			}
			if n >= 4 && n > best {
				best, nearest = n, back
			}
		}
		if best == 0 {
			gathered += s[at : at+1]
			at++
			continue
		}
		letGo()
		p += part(best, nearest)
		at += best
	}
	letGo()
	return p
}

// short is the beginning of bytes, for what a test tells.
func short(s string) string { return s[:min(len(s), 60)] }

// 8.1

func TestPress(t *testing.T) {
	far := once(t, 5000)
	for _, c := range []struct{ name, s, want string }{
		{"nothing", "", "\x00"},
		{"a byte", "a", "\x01\x02a"},
		{"the document's first", "aaaaaaaaa", "\x09\x02a\x09\x00"},
		{"the document's second", "ab", "\x02\x04ab"},
		{"any bytes", "\x00\xff\x80RZ", "\x05\x0a\x00\xff\x80RZ"},

		{"three that stand twice", "abcdabc", num(7) + text("abcdabc")},
		{"four that stand twice", "abcdabcd", num(8) + text("abcd") + part(4, 4)},
		{"three of one", "aaaa", num(4) + text("aaaa")},
		{"four of one", "aaaaa", num(5) + text("a") + part(4, 1)},
		{"a copy that reaches into itself", "abababa", num(7) + text("ab") + part(5, 2)},
		{"it goes on behind a copy", "abcdabcdx", num(9) + text("abcd") + part(4, 4) + text("x")},
		{"copies one behind the other", "abcd.efgh.abcdefgh", num(18) + text("abcd.efgh.") + part(4, 10) + part(4, 9)},
		{"bytes between copies", "abcdefgh-abcd+efgh", num(18) + text("abcdefgh-") + part(4, 9) + text("+") + part(4, 10)},
		{"what was copied is copied again", "abcdxabcdeabcde", num(15) + text("abcdx") + part(4, 5) + text("e") + part(5, 5)},
		{"a copy from behind a copy's middle", "abcdefXcdefYdefY", num(16) + text("abcdefX") + part(4, 5) + text("Y") + part(4, 4)},

		{"of several as long the nearest", "abcd1abcd2abcd", num(14) + text("abcd1") + part(4, 5) + text("2") + part(4, 5)},
		{"a longer one further back", "abcde1abcd2abcde", num(16) + text("abcde1") + part(4, 6) + text("2") + part(5, 11)},
		{"a longer one nearer", "abcd1abcde2abcde", num(16) + text("abcd1") + part(4, 5) + text("e2") + part(5, 6)},
		{"a short one is taken, though a long one begins behind it", "abcd1bcdefgh2abcdefgh", num(21) + text("abcd1bcdefgh2") + part(4, 13) + part(4, 9)},

		{"259 bytes", twice("a", 260), num(260) + text("a") + part(259, 1)},
		{"and one", twice("a", 261), num(261) + text("a") + part(259, 1) + text("a")},
		{"and three", twice("a", 263), num(263) + text("a") + part(259, 1) + text("aaa")},
		{"and four", twice("a", 264), num(264) + text("a") + part(259, 1) + part(4, 1)},
		{"of two", twice("ab", 300), num(600) + text("ab") + part(259, 2) + part(259, 2) + part(80, 2)},
		{"of several of 259 the nearest", far[:300] + "!" + far[:300] + "?" + far[:300], num(902) + text(far[:300]+"!") + part(259, 301) + part(41, 301) + text("?") + part(259, 301) + part(41, 301)},

		{"a long text that is gathered", far[:64], num(64) + num(128) + far[:64]},
		{"4095 back", far[:4095] + far[:4], num(4099) + text(far[:4095]) + part(4, 4095)},
		{"4096 back", far[:4096] + far[:4], num(4100) + text(far[:4096]) + part(4, 4096)},
		{"4097 back", far[:4097] + far[:4], num(4101) + text(far[:4097]+far[:4])},
		{"4097 back, of more than four", far[:4097] + far[:5], num(4102) + text(far[:4097]+far[:5])},
		{"too far back, then the nearest", far[:4096] + "!" + far[4000:4020] + "!" + far[:4] + far[4000:4020], num(4142) + text(far[:4096]+"!") + part(20, 97) + text("!"+far[:4]) + part(20, 25)},
		{"a long one 4096 back", far[:4096] + far[:259], num(4355) + text(far[:4096]) + part(259, 4096)},
		{"a longer one 4096 back", far[:4089] + "!" + far[:4] + "??" + far[:9], num(4105) + text(far[:4089]+"!") + part(4, 4090) + text("??") + part(9, 4096)},
		{"a longer one 4097 back", far[:4089] + "!" + far[:4] + "???" + far[:9], num(4106) + text(far[:4089]+"!") + part(4, 4090) + text("???") + part(4, 7) + text(far[4:9])},
	} {
		if s, e := press.Press(c.s); s != c.want || e != api.OK {
			t.Errorf("%s: %x, error %d, want %x", c.name, short(s), e, short(c.want))
		}
		if s := plain(c.s); s != c.want {
			t.Errorf("%s: the test's own way is %x, want %x", c.name, short(s), short(c.want))
		}
		if s, e := press.Loose(c.want); s != c.s || e != api.OK {
			t.Errorf("%s, loose: %x, error %d", c.name, short(s), e)
		}
	}
}

// Of any texts it is what the document tells.
func TestPressPlain(t *testing.T) {
	chance := rand.New(rand.NewSource(81))
	for round := range 200 {
		n := chance.Intn(40)
		switch round % 20 {
		case 0:
			n = 4000 + chance.Intn(9000)
		case 1, 2, 3, 4, 5, 6:
			n = chance.Intn(1500)
		}
		for _, kinds := range []int{1, 2, 3, 256} {
			for _, s := range []string{some(chance, n, kinds), woven(chance, n, kinds)} {
				if p, e := press.Press(s); p != plain(s) || e != api.OK {
					t.Fatalf("round %d: %x of %d bytes: error %d, pressed otherwise", round, short(s), n, e)
				}
			}
		}
	}
}

// All texts of up to 12 bytes of two kinds, or 7 of three.
func TestPressAll(t *testing.T) {
	for _, c := range []struct{ kinds, most int }{{2, 12}, {3, 7}} {
		texts := []string{""}
		for range c.most {
			var longer []string
			for _, s := range texts {
				for k := range c.kinds {
					longer = append(longer, s+string(rune('a'+k)))
				}
			}
			texts = longer
			for _, s := range texts {
				p, e := press.Press(s)
				if p != plain(s) || e != api.OK {
					t.Fatalf("%s: %x, error %d, want %x", s, p, e, plain(s))
				}
				if u, e := press.Loose(p); u != s || e != api.OK {
					t.Fatalf("%s, loose: %s, error %d", s, u, e)
				}
			}
		}
	}
}

func TestPressLong(t *testing.T) {
	for _, n := range []int{api.MaxText + 1, 2 * api.MaxText} {
		for _, s := range []string{twice("a", n), some(rand.New(rand.NewSource(3)), n, 256)} {
			if p, e := press.Press(s); p != "" || e != api.ErrLong {
				t.Errorf("Press of %d bytes: %d bytes, error %d", n, len(p), e)
			}
			if w, e := press.Wrap(s); w != "" || e != api.ErrLong {
				t.Errorf("Wrap of %d bytes: %d bytes, error %d", n, len(w), e)
			}
		}
	}
	// A byte, 4048 copies of 259, and one of the 143 that are left.
	s := twice("a", api.MaxText)
	want := num(api.MaxText) + text("a") + twice(part(259, 1), 4048) + part(143, 1)
	if p, e := press.Press(s); p != want || e != api.OK {
		t.Errorf("Press of MaxText bytes: %x, %d bytes, want %d, error %d", short(p), len(p), len(want), e)
	}
}

// 8.3

func TestWrap(t *testing.T) {
	for _, c := range []struct{ name, s, want string }{
		{"nothing", "", "R"},
		{"a byte", "a", "Ra"},
		{"what looks like one", "R", "RR"},
		{"what looks like one pressed", "Z\x00", "RZ\x00"},
		{"pressed it has two bytes more", "ab", "Rab"},
		{"it has as many", "aaaaa", "Raaaaa"},
		{"as many, of two parts", "abcdabcd", "Rabcdabcd"},
		{"it has a byte less", "aaaaaa", "Z\x06\x02a\x03\x00"},
		{"it has two bytes less", "aaaaaaa", "Z\x07\x02a\x05\x00"},
		{"the document's", "aaaaaaaaa", "Z\x09\x02a\x09\x00"},
	} {
		if w, e := press.Wrap(c.s); w != c.want || e != api.OK {
			t.Errorf("%s: %x, error %d, want %x", c.name, w, e, c.want)
		}
		if s, e := press.Open(c.want); s != c.s || e != api.OK {
			t.Errorf("%s, opened: %x, error %d", c.name, s, e)
		}
	}
	chance := rand.New(rand.NewSource(83))
	for range 2000 {
		s := woven(chance, chance.Intn(40), 3)
		want := "R" + s
		if p := plain(s); len(p) < len(s) {
			want = "Z" + p
		}
		if w, e := press.Wrap(s); w != want || e != api.OK {
			t.Fatalf("%x: %x, error %d, want %x", s, w, e, want)
		}
	}
}

func TestOpen(t *testing.T) {
	for _, c := range []struct {
		s, want string
		err     api.Errno
	}{
		{"", "", api.ErrShort},
		{"R", "", api.OK},
		{"RZ", "Z", api.OK},
		{"R\x00\xff", "\x00\xff", api.OK},
		{"Z\x00", "", api.OK},
		{"Z\x02\x04ab", "ab", api.OK},
		// A pressed text need not be shorter, nor as Press makes it.
		{"Z\x02\x02a\x02b", "ab", api.OK},
		{"Z", "", api.ErrShort},
		{"Z\x02\x04a", "", api.ErrShort},
		{"Z\x80\x00", "", api.ErrForm},
		{"Z" + num(api.MaxText+1), "", api.ErrLong},
		{"Z\x00\x00", "", api.ErrLong},
		{"z\x00", "", api.ErrForm},
		{"r", "", api.ErrForm},
		{"\x00", "", api.ErrForm},
		{"\xff", "", api.ErrForm},
		{" Rab", "", api.ErrForm},
		{"Q", "", api.ErrForm},
		{"S", "", api.ErrForm},
		{"Y\x00", "", api.ErrForm},
		{"[\x00", "", api.ErrForm},
		// Behind an R is what follows, of any length.
		{"R" + twice("a", api.MaxText+9), twice("a", api.MaxText+9), api.OK},
	} {
		if s, e := press.Open(c.s); s != c.want || e != c.err {
			t.Errorf("%x: %x, error %d, want error %d", short(c.s), short(s), e, c.err)
		}
	}
	for k := range 256 {
		if s, e := press.Open(string([]byte{byte(k), 0})); k != 'R' && k != 'Z' && (s != "" || e != api.ErrForm) {
			t.Errorf("byte %d: %x, error %d", k, s, e)
		}
	}
}

// 8.4

// bound tells whether a pressed text has at most 6 bytes more than the text and a 64th of it.
func bound(s, p string) bool { return 64*(len(p)-len(s)-6) <= len(s) }

func TestBackAgain(t *testing.T) {
	chance := rand.New(rand.NewSource(84))
	texts := []string{"", once(t, 63), once(t, 64), once(t, 65), once(t, 8191), once(t, 8192), some(chance, api.MaxText, 256), some(chance, api.MaxText, 2), woven(chance, 1<<16, 4)}
	// The shortest copies, far back, between texts that are just long enough for a longer number: these gain least.
	far := once(t, 4000)
	least := far
	for i := range 200 {
		least += far[1000+i*9:1004+i*9] + some(chance, 64, 5) + twice("!", i%2)
	}
	texts = append(texts, least)
	// Runs, which many places begin alike.
	for _, n := range []int{5, 100, 258, 259, 260, 700} {
		runs := ""
		for len(runs) < 1<<16 {
			runs += twice("a", 1+chance.Intn(n)) + some(chance, 1, 256)
		}
		texts = append(texts, runs)
	}
	for range 400 {
		texts = append(texts, woven(chance, chance.Intn(3000), 1+chance.Intn(4)), some(chance, chance.Intn(300), 256))
	}
	for i, s := range texts {
		p, e := press.Press(s)
		if e != api.OK || !bound(s, p) {
			t.Fatalf("text %d: %d bytes of %d, error %d", i, len(p), len(s), e)
		}
		if u, e := press.Loose(p); u != s || e != api.OK {
			t.Fatalf("text %d: not the text, error %d", i, e)
		}
		w, e := press.Wrap(s)
		if e != api.OK || len(w) > len(s)+1 {
			t.Fatalf("text %d: wrapped %d bytes of %d, error %d", i, len(w), len(s), e)
		}
		if u, e := press.Open(w); u != s || e != api.OK {
			t.Fatalf("text %d: not what was wrapped, error %d", i, e)
		}
	}
}

// What is answered shares no memory with what was handed in, which is as it was (R3).
func TestMemory(t *testing.T) {
	for name, c := range map[string]struct {
		call func(s string) (string, api.Errno)
		s    string
	}{
		"Press":          {press.Press, "abcdefabcdef"},
		"Loose":          {press.Loose, num(10) + text("abcde") + part(5, 5)},
		"Loose, at once": {press.Loose, num(5) + text("abcde")},
		"Wrap as it is":  {press.Wrap, "abcdef"},
		"Wrap":           {press.Wrap, "abcdefabcdefabcdef"},
		"Open as it is":  {press.Open, "Rabcdef"},
		"Open":           {press.Open, "Z" + num(5) + text("abcde")},
	} {
		memory := []byte(c.s)
		want, _ := c.call(strings.Clone(c.s))
		s, e := c.call(unsafe.String(&memory[0], len(memory)))
		if string(memory) != c.s {
			t.Errorf("%s: what was handed in is another", name)
		}
		clear(memory)
		if s != want || s == "" || e != api.OK {
			t.Errorf("%s: %x, error %d, want %x", name, s, e, want)
		}
	}
}
