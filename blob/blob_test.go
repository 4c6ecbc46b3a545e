package blob_test

import (
	"crypto/sha256"
	"encoding/binary"
	"hash/crc32"
	"math/rand"
	"slices"
	"strconv"
	"strings"
	"testing"
	"unsafe"

	"barque/api"
	"barque/blob"
	"barque/marks"
)

// times is a text so many times.
func times(s string, n int) string { return strings.Repeat(s, n) }

// numbered is an ideal book's mark of a number.
func numbered(n int) string {
	return string(binary.LittleEndian.AppendUint64(nil, uint64(n))) + times("\x00", 24)
}

// strong is SHA-256 by the library.
func strong(s string) string {
	m := sha256.Sum256([]byte(s))
	return string(m[:])
}

// framed is a payload's frame as the document tells it.
func framed(s string) string {
	size := binary.LittleEndian.AppendUint32(nil, uint32(len(s)))
	sum := binary.LittleEndian.AppendUint32(nil, crc32.ChecksumIEEE(append(slices.Clone(size), s...)))
	return "\xb5\x7e" + string(size) + string(sum) + s
}

// packed is texts' frames, one behind the other.
func packed(l ...string) (s string) {
	for _, x := range l {
		s += framed(x)
	}
	return s
}

// books are books that are ready.
func books() map[string]*marks.Book {
	return map[string]*marks.Book{"real": marks.Real(), "ideal": marks.Ideal()}
}

// put keeps texts: their marks.
func put(t *testing.T, b *blob.Blobs, l ...string) (all []string) {
	t.Helper()
	for _, s := range l {
		mark, e := b.Put(s)
		if e != api.OK {
			t.Fatalf("Put of %d bytes: error %d", len(s), e)
		}
		all = append(all, mark)
	}
	return all
}

// drop drops marks.
func drop(t *testing.T, b *blob.Blobs, l ...string) {
	t.Helper()
	for _, mark := range l {
		if e := b.Drop(mark); e != api.OK {
			t.Fatalf("Drop of %x: error %d", mark, e)
		}
	}
}

// kept asks whether a mark's text is kept, and so many lead to it; of 0: whether it is not kept.
func kept(t *testing.T, b *blob.Blobs, mark, want string, refs int) {
	t.Helper()
	wanted := api.OK
	if refs == 0 {
		want, wanted = "", api.ErrNone
	}
	if s, e := b.Get(mark); s != want || e != wanted {
		t.Errorf("Get of %x: %d bytes, error %d, want %d bytes, error %d", mark, len(s), e, len(want), wanted)
	}
	if n := b.Refs(mark); n != refs {
		t.Errorf("Refs of %x: %d, want %d", mark, n, refs)
	}
}

// holds asks how many texts are kept, how many bytes these have.
func holds(t *testing.T, b *blob.Blobs, count, bytes int) {
	t.Helper()
	if b.Count() != count || b.Bytes() != bytes {
		t.Errorf("%d texts of %d bytes, want %d of %d", b.Count(), b.Bytes(), count, bytes)
	}
}

// 11.1

func TestPut(t *testing.T) {
	for name, book := range books() {
		t.Run(name, func(t *testing.T) {
			b := blob.New(book)
			holds(t, b, 0, 0)
			l := []string{"", "a", "b", "ab", "\x00", times("x", api.MaxFrame-1), times("x", api.MaxFrame)}
			bytes := 0
			for i, s := range l {
				mark := put(t, b, s)[0]
				if mark != book.Mark(s) || len(mark) != api.MarkBytes {
					t.Errorf("Put of %d bytes: %x", len(s), mark)
				}
				bytes += len(s)
				kept(t, b, mark, s, 1)
				holds(t, b, i+1, bytes)
			}
			// Once more: no text is kept twice.
			for _, s := range l {
				kept(t, b, put(t, b, s)[0], s, 2)
				holds(t, b, len(l), bytes)
			}
		})
	}
}

// The marks are the book's.
func TestPutMarks(t *testing.T) {
	if l := put(t, blob.New(marks.Real()), "x", "", "x"); !slices.Equal(l, []string{strong("x"), strong(""), strong("x")}) {
		t.Errorf("real: %x", l)
	}
	book := marks.Ideal()
	book.Mark("ahead")
	if l := put(t, blob.New(book), "x", "", "x", "ahead"); !slices.Equal(l, []string{numbered(2), numbered(3), numbered(2), numbered(1)}) {
		t.Errorf("ideal: %x", l)
	}
}

// What is too long is neither kept nor marked.
func TestPutTooLong(t *testing.T) {
	book := marks.Ideal()
	b := blob.New(book)
	for _, n := range []int{api.MaxFrame + 1, api.MaxFrame + 2, 2 * api.MaxFrame, api.MaxText + 1} {
		if mark, e := b.Put(times("x", n)); mark != "" || e != api.ErrLong {
			t.Errorf("%d bytes: %x, error %d", n, mark, e)
		}
	}
	holds(t, b, 0, 0)
	if mark := book.Mark("other"); mark != numbered(1) {
		t.Errorf("something was marked: %x", mark)
	}
}

func TestDrop(t *testing.T) {
	for name, book := range books() {
		t.Run(name, func(t *testing.T) {
			b := blob.New(book)
			m := put(t, b, "", "ab", "cde", "ab", "ab")
			kept(t, b, m[1], "ab", 3)
			drop(t, b, m[1])
			kept(t, b, m[1], "ab", 2)
			drop(t, b, m[1])
			kept(t, b, m[1], "ab", 1)
			holds(t, b, 3, 5)
			// With none it goes.
			drop(t, b, m[1])
			kept(t, b, m[1], "ab", 0)
			holds(t, b, 2, 3)
			if e := b.Drop(m[1]); e != api.ErrNone {
				t.Errorf("what is gone: error %d", e)
			}
			// The empty text goes, too.
			kept(t, b, m[0], "", 1)
			drop(t, b, m[0])
			kept(t, b, m[0], "", 0)
			holds(t, b, 1, 3)
			// It comes again as if it were new.
			put(t, b, "ab")
			kept(t, b, m[1], "ab", 1)
			drop(t, b, m[1], m[2])
			holds(t, b, 0, 0)
		})
	}
}

// Of marks of texts that are not kept there is nothing.
func TestNone(t *testing.T) {
	for name, book := range books() {
		b := blob.New(book)
		mark := put(t, b, "ab")[0]
		for _, m := range []string{"", "\x00", "ab", mark[:31], mark + "\x00", times("\x00", 32), times("\xff", 32), book.Mark("other"), numbered(3), strong("more")} {
			kept(t, b, m, "", 0)
			if e := b.Drop(m); e != api.ErrNone {
				t.Errorf("%s: Drop of %x: error %d", name, m, e)
			}
		}
		kept(t, b, mark, "ab", 1)
		holds(t, b, 1, 2)
	}
}

// Blobs of one book have nothing of one another.
func TestTwo(t *testing.T) {
	book := marks.Ideal()
	a, b := blob.New(book), blob.New(book)
	mark := put(t, a, "x")[0]
	kept(t, b, mark, "x", 0)
	if again := put(t, b, "x")[0]; again != mark {
		t.Errorf("%x and %x", mark, again)
	}
	drop(t, a, mark)
	kept(t, b, mark, "x", 1)
	holds(t, a, 0, 0)
}

// 11.4

func TestPack(t *testing.T) {
	b := blob.New(marks.Ideal())
	if s, e := b.Pack(); s != "" || e != api.OK {
		t.Errorf("of none: %q, error %d", s, e)
	}
	m := put(t, b, "b", "", "a", "b")
	if s, e := b.Pack(); s != packed("b", "", "a") || e != api.OK {
		t.Errorf("%q, error %d", s, e)
	}
	drop(t, b, m[0], m[1])
	// To b one more leads.
	if s, e := b.Pack(); s != packed("b", "a") || e != api.OK {
		t.Errorf("%q, error %d", s, e)
	}
	put(t, b, times("x", api.MaxFrame))
	if s, e := b.Pack(); s != packed("b", "a", times("x", api.MaxFrame)) || e != api.OK {
		t.Errorf("%d bytes, error %d", len(s), e)
	}
}

// The order is that of the marks, byte by byte: an ideal book's number 256 has a first byte of 0.
func TestPackOrder(t *testing.T) {
	var l []string
	for i := range 600 {
		l = append(l, strconv.Itoa(i))
	}
	for name, book := range books() {
		b := blob.New(book)
		put(t, b, l...)
		want := slices.Clone(l)
		slices.SortFunc(want, func(x, y string) int { return strings.Compare(book.Mark(x), book.Mark(y)) })
		if name == "ideal" && (want[0] != "255" || want[1] != "511" || want[2] != "0" || want[3] != "256") {
			t.Fatalf("the test's own order: %q", want[:4])
		}
		if s, e := b.Pack(); s != packed(want...) || e != api.OK {
			t.Errorf("%s: %d bytes, error %d", name, len(s), e)
		}
	}
}

// unpacks asks how many payloads Unpack finds, how many it puts.
func unpacks(t *testing.T, b *blob.Blobs, s string, found, put int) {
	t.Helper()
	if n, m, e := b.Unpack(s); n != found || m != put || e != api.OK {
		t.Errorf("Unpack of %d bytes: %d, %d, error %d, want %d, %d", len(s), n, m, e, found, put)
	}
}

func TestUnpack(t *testing.T) {
	for name, book := range books() {
		t.Run(name, func(t *testing.T) {
			b := blob.New(book)
			unpacks(t, b, "", 0, 0)
			unpacks(t, b, "no frame at all", 0, 0)
			holds(t, b, 0, 0)
			a, empty, long := put(t, b, "a", "a")[0], book.Mark(""), book.Mark(times("x", api.MaxFrame))
			// What is kept is not put; what comes twice is put once.
			unpacks(t, b, packed("b", "a", "", "b", times("x", api.MaxFrame), "a"), 6, 3)
			kept(t, b, a, "a", 2)
			kept(t, b, book.Mark("b"), "b", 1)
			kept(t, b, empty, "", 1)
			kept(t, b, long, times("x", api.MaxFrame), 1)
			holds(t, b, 4, 2+api.MaxFrame)
			// All of it once more puts nothing.
			all, _ := b.Pack()
			unpacks(t, b, all, 4, 0)
			kept(t, b, book.Mark("b"), "b", 1)
			drop(t, b, a, a, book.Mark("b"), empty, long)
			holds(t, b, 0, 0)
		})
	}
}

// In their order: an ideal book numbers them so.
func TestUnpackOrder(t *testing.T) {
	b := blob.New(marks.Ideal())
	unpacks(t, b, packed("z", "y", "z", "x"), 4, 3)
	for i, s := range []string{"z", "y", "x"} {
		kept(t, b, numbered(i+1), s, 1)
	}
}

// Payloads are found in any bytes, as frame.Scan finds them.
func TestUnpackDamaged(t *testing.T) {
	bent := []byte(framed("bent"))
	bent[len(bent)-1] ^= 1
	tooLong := "\xb5\x7e\x01\x00\x01\x00" + times("\x00", 4)
	for name, c := range map[string]struct {
		s    string
		want []string
	}{
		"bytes between":   {"xy" + framed("a") + "\xb5\x7f" + framed("b") + "z", []string{"a", "b"}},
		"one bent":        {framed("a") + string(bent) + framed("b"), []string{"a", "b"}},
		"one too long":    {framed("a") + tooLong + framed("b"), []string{"a", "b"}},
		"the last is cut": {packed("a", "b")[:21], []string{"a"}},
		// Scan ends where bytes lack, even if a length is bent alone.
		"cut, and more":   {framed("a") + "\xb5\x7e\xff\x00\x00\x00" + framed("b"), []string{"a"}},
		"all are bent":    {string(bent) + string(bent), nil},
		"half a frame":    {"\xb5", nil},
		"a frame in one":  {framed("x" + framed("a")), []string{"x" + framed("a")}},
		"a bent one's in": {string(bent[:9]) + framed("a"), []string{"a"}},
	} {
		b := blob.New(marks.Real())
		bytes := 0
		unpacks(t, b, c.s, len(c.want), len(c.want))
		for _, s := range c.want {
			kept(t, b, strong(s), s, 1)
			bytes += len(s)
		}
		if b.Count() != len(c.want) || b.Bytes() != bytes {
			t.Errorf("%s: %d texts of %d bytes", name, b.Count(), b.Bytes())
		}
	}
}

// What was packed is kept by others, of another book, too.
func TestPackUnpack(t *testing.T) {
	chance := rand.New(rand.NewSource(4))
	for range 50 {
		a, b := blob.New(marks.Real()), blob.New(marks.Real())
		for range chance.Intn(20) {
			put(t, a, times(string(rune('a'+chance.Intn(4))), chance.Intn(6)))
		}
		s, e := a.Pack()
		unpacks(t, b, s, a.Count(), a.Count())
		again, f := b.Pack()
		if again != s || b.Bytes() != a.Bytes() || e != api.OK || f != api.OK {
			t.Errorf("%q, error %d, then %q, error %d", s, e, again, f)
		}
	}
}

// Blobs that New did not give, or whose book is not ready, have nothing, whatever they are asked (R1).
func TestNotReady(t *testing.T) {
	for name, b := range map[string]*blob.Blobs{"nil": nil, "not of New": new(blob.Blobs), "no book": blob.New(nil), "a book not ready": blob.New(new(marks.Book))} {
		refused := func(call string, nothing bool, e api.Errno) {
			t.Helper()
			if !nothing || e != api.ErrState {
				t.Errorf("%s: %s: error %d, nothing: %v", name, call, e, nothing)
			}
		}
		for _, s := range []string{"", "x", numbered(1), strong("x"), framed("x"), times("x", api.MaxFrame+1)} {
			mark, e := b.Put(s)
			refused("Put", mark == "", e)
			text, e := b.Get(s)
			refused("Get", text == "", e)
			refused("Drop", true, b.Drop(s))
			l, e := b.Load(s)
			refused("Load", len(l) == 0, e)
			refused("Forget", true, b.Forget(s))
			n, m, e := b.Unpack(s)
			refused("Unpack", n == 0 && m == 0, e)
			if n := b.Refs(s); n != 0 {
				t.Errorf("%s: Refs %d", name, n)
			}
		}
		for _, l := range [][]api.File{nil, {{Path: "a", Data: "x"}}, {{Path: "/"}}, {{Path: "a", Mode: -1}}} {
			mark, e := b.Save(l)
			refused("Save", mark == "", e)
		}
		s, e := b.Pack()
		refused("Pack", s == "", e)
		if b.Count() != 0 || b.Bytes() != 0 || len(b.Roots()) != 0 || b.Check() {
			t.Errorf("%s: %d texts, %d bytes, roots %x, Check %v", name, b.Count(), b.Bytes(), b.Roots(), b.Check())
		}
	}
}

// A book that is ready no more is not ready, though there are texts.
func TestReadyNoMore(t *testing.T) {
	book := marks.Real()
	b := blob.New(book)
	mark := put(t, b, "x")[0]
	root := save(t, b, file("a"))
	was := *book
	*book = marks.Book{}
	if s, e := b.Get(mark); s != "" || e != api.ErrState || b.Refs(mark) != 0 || b.Count() != 0 || b.Bytes() != 0 || b.Check() || len(b.Roots()) != 0 {
		t.Errorf("Get: %q, error %d; %d texts of %d bytes", s, e, b.Count(), b.Bytes())
	}
	if e, f := b.Drop(mark), b.Forget(root); e != api.ErrState || f != api.ErrState {
		t.Errorf("Drop: error %d, Forget: error %d", e, f)
	}
	if s, e := b.Pack(); s != "" || e != api.ErrState {
		t.Errorf("Pack: %q, error %d", s, e)
	}
	*book = was
	kept(t, b, mark, "x", 1)
	if !b.Check() {
		t.Error("what was saved is not there")
	}
}

// What is handed in is neither changed nor kept, what is answered is new memory (R3).
func TestMemory(t *testing.T) {
	memory := []byte("textname")
	text := func(from, to int) string { return unsafe.String(&memory[from], to-from) }
	b := blob.New(marks.Real())
	put(t, b, text(0, 4), text(0, 4))
	room := []api.File{{Path: text(4, 5), Data: text(1, 3)}, {Path: text(4, 8), Mode: 1, Data: text(4, 8)}, {Path: "behind"}}
	before := slices.Clone(room)
	root := save(t, b, room[:2]...)
	if !slices.Equal(room, before) || string(memory) != "textname" {
		t.Errorf("what was handed in is %v", room)
	}
	clear(memory)
	clear(room)
	kept(t, b, strong("text"), "text", 2)
	loads(t, b, root, []api.File{{Path: "n", Data: "ex"}, {Path: "name", Mode: 1, Data: "name"}})

	memory = []byte(framed("packed"))
	unpacks(t, b, text(0, len(memory)), 1, 1)
	clear(memory)
	kept(t, b, strong("packed"), "packed", 1)

	// A mark by which something is asked or dropped does not become the one that is kept.
	for _, call := range []func(mark string){
		func(mark string) { b.Get(mark) },
		func(mark string) { b.Drop(mark) },
		func(mark string) { b.Refs(mark) },
		func(mark string) { b.Load(mark) },
	} {
		memory = []byte(strong("text"))
		call(text(0, api.MarkBytes))
		if string(memory) != strong("text") {
			t.Errorf("what was handed in is %x", memory)
		}
		clear(memory)
	}
	kept(t, b, strong("text"), "text", 1)
}

// No two answers share memory, nor with what is kept.
func TestMemoryOfAnswers(t *testing.T) {
	for name, book := range books() {
		b := blob.New(book)
		root := save(t, b, api.File{Path: "a", Data: "same"}, api.File{Path: "b", Data: "same"})
		all := []string{root}
		for range 2 {
			mark, _ := b.Put("same")
			s, _ := b.Get(mark)
			l, _ := b.Load(root)
			packed, _ := b.Pack()
			all = append(all, mark, s, packed)
			for _, f := range l {
				all = append(all, f.Path, f.Data)
			}
			all = append(all, b.Roots()...)
		}
		for i, x := range all {
			for _, y := range all[:i] {
				if unsafe.StringData(x) == unsafe.StringData(y) {
					t.Errorf("%s: two answers share %q", name, x)
				}
			}
			clear(unsafe.Slice(unsafe.StringData(x), len(x)))
		}
		if !b.Check() || len(b.Roots()) != 1 || b.Refs(book.Mark("same")) != 4 {
			t.Errorf("%s: what was answered was what is kept", name)
		}
	}
}
