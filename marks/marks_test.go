package marks_test

import (
	"crypto/sha256"
	"encoding/binary"
	"encoding/hex"
	"math/rand"
	"slices"
	"strconv"
	"strings"
	"testing"
	"unsafe"

	"barque/api"
	"barque/marks"
)

// sum is SHA-256 by the library.
func sum(s string) string {
	b := sha256.Sum256([]byte(s))
	return string(b[:])
}

// numbered is the mark of a number as the document tells it.
func numbered(n int) string {
	return string(binary.LittleEndian.AppendUint64(nil, uint64(n))) + strings.Repeat("\x00", 24)
}

// some is n bytes.
func some(chance *rand.Rand, n int) string {
	b := make([]byte, n)
	chance.Read(b)
	return string(b)
}

// unready are books that neither Real nor Ideal gave.
func unready() []*marks.Book { return []*marks.Book{nil, {}, new(marks.Book)} }

// likeMarks are texts that are no marks, though some are near the mark m.
func likeMarks(m string) []string {
	l := []string{"", "\x00", m[:len(m)-1], m + "\x00", "\x00" + m, m + m, hex.EncodeToString([]byte(m)), strings.Repeat("\x00", api.MarkBytes), strings.Repeat("\xff", api.MarkBytes)}
	for i := range len(m) * 8 {
		b := []byte(m)
		b[i/8] ^= 1 << (i % 8)
		l = append(l, string(b))
	}
	return l
}

// 3.1

func TestSum(t *testing.T) {
	for _, c := range []struct{ s, want string }{
		{"", "e3b0c44298fc1c149afbf4c8996fb92427ae41e4649b934ca495991b7852b855"},
		{"abc", "ba7816bf8f01cfea414140de5dae2223b00361a396177a9cb410ff61f20015ad"},
		{"abcdbcdecdefdefgefghfghighijhijkijkljklmklmnlmnomnopnopq", "248d6a61d20638b8e5c026930c3e6039a33ce45964ff2167f6ecedd419db06c1"},
		{strings.Repeat("a", 1000000), "cdc76e5c9914fb9281a1c7e284d73e67f1809a48a497200e046d39ccc7112cd0"},
	} {
		if s := hex.EncodeToString([]byte(marks.Sum(c.s))); s != c.want {
			t.Errorf("of %.60q, %d bytes: %s, want %s", c.s, len(c.s), s, c.want)
		}
	}
}

func TestSumOfAllLengths(t *testing.T) {
	// All places at which the text's end may lie in a block, and blocks behind blocks.
	chance := rand.New(rand.NewSource(1))
	for n := range 5*64 + 1 {
		for _, s := range []string{some(chance, n), strings.Repeat("\x00", n), strings.Repeat("\x80", n), strings.Repeat("\xff", n)} {
			if marks.Sum(s) != sum(s) {
				t.Errorf("of %d bytes: %x, want %x", n, marks.Sum(s), sum(s))
			}
		}
	}
	for _, n := range []int{8191, 8192, 65535, 65536, api.MaxText - 1, api.MaxText, api.MaxRecord + 1} {
		if s := some(chance, n); marks.Sum(s) != sum(s) {
			t.Errorf("of %d bytes: %x, want %x", n, marks.Sum(s), sum(s))
		}
	}
}

func TestSumOfMoreThan32Bits(t *testing.T) {
	if testing.Short() {
		t.Skip("half a gigabyte")
	}
	const pieces = 1 << 9
	piece := strings.Repeat("barque..", 1<<17)
	h := sha256.New()
	for range pieces {
		h.Write([]byte(piece))
	}
	if s := marks.Sum(strings.Repeat(piece, pieces)); s != string(h.Sum(nil)) {
		t.Errorf("%x, want %x", s, h.Sum(nil))
	}
}

// 3.2

func TestReady(t *testing.T) {
	if !marks.Real().Ready() || !marks.Ideal().Ready() {
		t.Error("a book that was given is not ready")
	}
	used := marks.Ideal()
	used.Mark("x")
	if !used.Ready() {
		t.Error("a book is not ready any more")
	}
}

func TestUnready(t *testing.T) {
	for i, b := range unready() {
		for range 2 {
			for _, s := range []string{"", "x", sum(""), numbered(1)} {
				if b.Ready() || b.Mark(s) != "" {
					t.Errorf("book %d: %v, %x", i, b.Ready(), b.Mark(s))
				}
				for _, m := range []string{"", "\x00", s, sum(s), numbered(0), numbered(1), strings.Repeat("\x00", api.MarkBytes-1)} {
					if b.Is(s, m) {
						t.Errorf("book %d: %x is the mark of %q", i, m, s)
					}
				}
			}
		}
	}
}

func TestReal(t *testing.T) {
	chance := rand.New(rand.NewSource(2))
	b := marks.Real()
	for n := range 200 {
		s := some(chance, n)
		// It takes a mark, whether it gave it or not.
		if !b.Is(s, sum(s)) || b.Mark(s) != sum(s) || !b.Is(s, sum(s)) || b.Mark(s) != marks.Sum(s) {
			t.Errorf("of %d bytes: %x, want %x", n, b.Mark(s), sum(s))
		}
		if b.Is(s+"x", sum(s)) || b.Is(s, sum(s+"x")) || b.Is(s, numbered(n)) || b.Is(s, numbered(1)) {
			t.Errorf("of %d bytes: another's mark is taken", n)
		}
		for _, m := range likeMarks(sum(s)) {
			if b.Is(s, m) {
				t.Errorf("of %d bytes: %x is its mark", n, m)
			}
		}
	}
}

func TestIdeal(t *testing.T) {
	b := marks.Ideal()
	for i, c := range []struct {
		s string
		n int
	}{
		{"x", 1}, {"y", 2}, {"x", 1}, {"", 3}, {"y", 2}, {"", 3}, {"xy", 4}, {"x\x00", 5}, {"\x00", 6}, {"\x00\x00", 7}, {"X", 8}, {numbered(1), 9}, {"x", 1}, {"\xff", 10}, {"\xfe", 11}, {"�", 12}, {"\xff", 10},
		{strings.Repeat("z", 1<<21), 13}, {strings.Repeat("z", 1<<21) + "z", 14}, {strings.Repeat("z", 1<<21), 13},
	} {
		if m := b.Mark(c.s); m != numbered(c.n) {
			t.Errorf("mark %d, of %.20q: %x, want %x", i, c.s, m, numbered(c.n))
		}
	}
	if m := marks.Ideal().Mark("y"); m != numbered(1) {
		t.Errorf("of another book's first text: %x", m)
	}
}

func TestIdealOfMany(t *testing.T) {
	b := marks.Ideal()
	for round := range 2 {
		for n := 1; n <= 1<<16+300; n++ {
			if m := b.Mark(strconv.Itoa(n)); m != numbered(n) {
				t.Fatalf("round %d, text %d: %x, want %x", round, n, m, numbered(n))
			}
		}
	}
}

func TestIdealIs(t *testing.T) {
	b := marks.Ideal()
	for n := 1; n < 400; n++ {
		s := strconv.Itoa(n)
		// Ahead of its being marked it has no mark, and being asked gives it none.
		for _, m := range []string{"", numbered(0), numbered(n - 1), numbered(n), numbered(n + 1), sum(s)} {
			if b.Is(s, m) {
				t.Fatalf("%x is the mark of %q, which was not marked", m, s)
			}
		}
		if m := b.Mark(s); m != numbered(n) || !b.Is(s, m) || !b.Is(strings.Clone(s), strings.Clone(m)) {
			t.Fatalf("of %q: %x, want %x", s, m, numbered(n))
		}
		for _, m := range append(likeMarks(numbered(n)), numbered(n-1), numbered(n+1), sum(s)) {
			if b.Is(s, m) {
				t.Fatalf("%x is the mark of %q", m, s)
			}
		}
		if !b.Is("1", numbered(1)) || b.Is("1", numbered(n)) != (n == 1) || b.Is("0"+s, numbered(n)) {
			t.Fatalf("with %d texts: another's mark is taken, or its own is not", n)
		}
	}
}

// A book goes on as it did, whatever becomes of the memory in which a text was handed in (R3).
func TestTextsAreNotKeptAsTheyAre(t *testing.T) {
	b := marks.Ideal()
	memory := []byte("first")
	m := b.Mark(unsafe.String(&memory[0], len(memory)))
	copy(memory, "other")
	if !b.Is("first", m) || b.Is("other", m) || b.Mark("first") != m || b.Mark("other") != numbered(2) {
		t.Error("the text changed in the book")
	}
}

// 3.3

func TestMarksTellTextsApart(t *testing.T) {
	chance := rand.New(rand.NewSource(3))
	b := marks.Ideal()
	of := map[string]string{} // of each text its mark
	by := map[string]string{} // of each mark its text
	for range 50000 {
		s, u := some(chance, chance.Intn(3)), some(chance, chance.Intn(3))
		m := b.Mark(s)
		if before, ok := of[s]; ok && before != m {
			t.Fatalf("%x: %x, and %x", s, before, m)
		}
		if other, ok := by[m]; ok && other != s {
			t.Fatalf("%x and %x: one mark, %x", s, other, m)
		}
		of[s], by[m] = m, s
		if b.Is(u, m) != (u == s) {
			t.Fatalf("%x is the mark of %x: %v, it is that of %x", m, u, b.Is(u, m), s)
		}
		n := numbered(chance.Intn(70000))
		if mine, ok := of[u]; b.Is(u, n) != (ok && mine == n) {
			t.Fatalf("%x is the mark of %x: %v", n, u, b.Is(u, n))
		}
	}
	if len(of) < 10000 || len(of) != len(by) {
		t.Fatalf("%d texts, %d marks", len(of), len(by))
	}
}

// R4: what a book answers hangs on what it was asked, and on nothing else.
func TestBooksDoAlike(t *testing.T) {
	for _, book := range []func() *marks.Book{marks.Real, marks.Ideal, func() *marks.Book { return nil }} {
		a, b := book(), book()
		chance := rand.New(rand.NewSource(4))
		var l []string
		for range 5000 {
			s := some(chance, chance.Intn(3))
			if l = append(l, a.Mark(s)); b.Mark(s) != l[len(l)-1] {
				t.Fatalf("%x: %x, by another book %x", s, l[len(l)-1], b.Mark(s))
			}
			if m := l[chance.Intn(len(l))]; a.Is(s, m) != b.Is(s, m) {
				t.Fatalf("%x is the mark of %x by one book alone", m, s)
			}
		}
		slices.Sort(l)
		if n := len(l[0]); n != 0 && n != api.MarkBytes || n != len(l[len(l)-1]) {
			t.Fatalf("a mark of %d bytes", n)
		}
	}
}
