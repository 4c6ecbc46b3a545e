package disk_test

import (
	"math"
	"math/rand"
	"slices"
	"strings"
	"testing"

	"barque/api"
	"barque/disk"
)

// 14.4

func TestSync(t *testing.T) {
	d := device(t, 9, "a", "b")
	for range 2 {
		if e := d.Sync(); e != api.OK || d.Waiting() != 0 {
			t.Fatalf("Sync of nothing: %v", e)
		}
	}
	d.Write("a", 60, "12345678")
	d.Write("b", 0, "old")
	d.Write("b", 0, "new")
	d.Write("a", 61, "x")
	if e := d.Sync(); e != api.OK || d.Waiting() != 0 || d.Writes() != 5 || d.Free() != 6 {
		t.Fatalf("Sync: %v, Waiting %d, Writes %d, Free %d", e, d.Waiting(), d.Writes(), d.Free())
	}
	d.Crash(nil)
	holds(t, d, "a", strings.Repeat("\x00", 60)+"1x345678")
	holds(t, d, "b", "new")
	if d.Writes() != 5 {
		t.Errorf("Writes behind a crash: %d", d.Writes())
	}
}

func TestArm(t *testing.T) {
	d := device(t, 9, "a")
	d.Arm(1)
	for _, n := range []int{-1, math.MinInt} {
		if e := d.Arm(n); e != api.ErrArg {
			t.Errorf("Arm(%d): %v", n, e)
		}
	}
	// The fuse is still 1; another one stands instead of it.
	if d.Append("a", "x") != api.OK {
		t.Fatal("the first piece is refused")
	}
	for _, n := range []int{0, 2} {
		if e := d.Arm(n); e != api.OK {
			t.Errorf("Arm(%d): %v", n, e)
		}
	}
	if d.Append("a", "x") != api.OK || d.Append("a", "x") != api.OK || d.Append("a", "x") != api.ErrDown {
		t.Error("a fuse of 2 is none")
	}
	d.Crash(nil)
	if e := d.Arm(math.MaxInt); e != api.OK {
		t.Errorf("Arm(%d): %v", math.MaxInt, e)
	}
	if e := d.Write("a", 0, strings.Repeat("x", 500)); e != api.OK {
		t.Errorf("Write with the longest fuse: %v", e)
	}
	// A crash takes the fuse away, also of a device that has power.
	d.Arm(0)
	d.Crash(nil)
	if e := d.Append("a", "x"); e != api.OK {
		t.Errorf("Append behind a crash: %v", e)
	}
}

// 14.5

func TestExample(t *testing.T) {
	d := device(t, 2, "a")
	if e := d.Write("a", 60, "12345678"); e != api.OK || d.Waiting() != 2 {
		t.Fatalf("Write: %v, Waiting %d", e, d.Waiting())
	}
	d.Crash([]int{1})
	holds(t, d, "a", strings.Repeat("\x00", 60)+"1234")
}

func TestFates(t *testing.T) {
	gap := func(n int) string { return strings.Repeat("\x00", n) }
	for i, c := range []struct {
		at    int
		s     string
		fates []int
		want  string
	}{
		{0, "abcd", nil, ""},
		{0, "abcd", []int{}, ""},
		{0, "abcd", []int{0}, ""},
		{0, "abcd", []int{1}, "abcd"},
		{0, "abcd", []int{1, 1, 1}, "abcd"},
		{0, "abcd", []int{2}, "ab"},
		{0, "abcde", []int{2}, "ab"},
		{0, "abc", []int{2}, "a"},
		{0, "a", []int{2}, ""},
		{0, "abcd", []int{3}, ""},
		{0, "abcd", []int{-1}, ""},
		{0, "abcd", []int{math.MaxInt}, ""},
		{0, "abcd", []int{math.MinInt}, ""},
		{0, "abcd", []int{1 << 32}, ""},
		{0, "abcd", []int{1<<32 + 1}, ""},
		{0, "abcd", []int{0, 1}, ""},
		{3, "ab", []int{1}, gap(3) + "ab"},
		{3, "ab", []int{2}, gap(3) + "a"},
		{3, "a", []int{2}, ""}, // the half, of no bytes, reaches no place
		{63, "a", []int{2}, ""},
		{64, "a", []int{2}, ""},
		{63, "ab", []int{2, 0}, ""},
		{63, "ab", []int{1, 2}, gap(63) + "a"},
		{63, "ab", []int{2, 1}, gap(64) + "b"},
		{63, "abc", []int{2, 2}, gap(64) + "b"},
		{60, "abcdEF", []int{1, 1}, gap(60) + "abcdEF"},
		{60, "abcdEF", []int{0, 1}, gap(64) + "EF"},
		{60, "abcdEF", []int{1, 0}, gap(60) + "abcd"},
		{60, "abcdEF", []int{1, 2}, gap(60) + "abcdE"},
		{60, "abcdEF", []int{2, 1}, gap(60) + "ab" + gap(2) + "EF"},
		{60, "abcdEF", []int{2, 2}, gap(60) + "ab" + gap(2) + "E"},
	} {
		d := device(t, 4, "a")
		d.Write("a", c.at, c.s)
		d.Crash(c.fates)
		if s := all(t, d, "a"); s != c.want || d.Waiting() != 0 || !d.Up() {
			t.Errorf("%d: Crash(%v): %q, want %q", i, c.fates, s, c.want)
		}
		if free := 4 - (len(c.want)+63)/64; d.Free() != free {
			t.Errorf("%d: Free %d, want %d", i, d.Free(), free)
		}
	}
}

func TestHalfOfOneByteLeavesWhatLasts(t *testing.T) {
	for i, c := range []struct {
		at    int
		s     string
		fates []int
		want  string
	}{
		{0, "x", []int{2}, "abc"},
		{1, "x", []int{2}, "abc"},
		{3, "x", []int{2}, "abc"},
		{4, "x", []int{2}, "abc"},
		{5, "x", []int{2}, "abc"},
		{200, "x", []int{2}, "abc"},
		{63, "xy", []int{2, 2}, "abc"},
		{5, "x", []int{1}, "abc\x00\x00x"},
		{5, "xy", []int{2}, "abc\x00\x00x"},
	} {
		d := device(t, 4, "a")
		d.Write("a", 0, "abc")
		d.Sync()
		if e := d.Write("a", c.at, c.s); e != api.OK {
			t.Fatalf("%d: Write: %v", i, e)
		}
		d.Crash(c.fates)
		if s := all(t, d, "a"); s != c.want || d.Free() != 3 {
			t.Errorf("%d: Crash(%v): %q, Free %d, want %q, 3", i, c.fates, s, d.Free(), c.want)
		}
	}
	// A piece that lasts behind a torn one of a byte fills the gap from where the file ended ahead of both.
	d := device(t, 4, "a")
	d.Write("a", 100, "x")
	d.Write("a", 2, "y")
	d.Crash([]int{2, 1})
	holds(t, d, "a", "\x00\x00y")
}

func TestFatesInOrder(t *testing.T) {
	for i, c := range []struct {
		fates []int
		a, b  string
	}{
		{[]int{0, 0, 0}, "0000", "0000"},
		{[]int{1, 0, 0}, "1111", "0000"},
		{[]int{0, 1, 0}, "0000", "2222"},
		{[]int{0, 0, 1}, "0333", "0000"},
		{[]int{1, 0, 1}, "1333", "0000"},
		{[]int{1, 2, 2}, "1311", "2200"},
		{[]int{2, 1, 0}, "1100", "2222"},
		{[]int{1, 1, 1}, "1333", "2222"},
	} {
		d := device(t, 4, "a", "b")
		d.Write("a", 0, "0000")
		d.Write("b", 0, "0000")
		d.Sync()
		d.Write("a", 0, "1111")
		d.Write("b", 0, "2222")
		d.Write("a", 1, "333")
		d.Crash(c.fates)
		if a, b := all(t, d, "a"), all(t, d, "b"); a != c.a || b != c.b {
			t.Errorf("%d: Crash(%v): %q, %q, want %q, %q", i, c.fates, a, b, c.a, c.b)
		}
	}
}

func TestSpoil(t *testing.T) {
	d := device(t, 4, "a")
	d.Write("a", 0, "abc")
	if e := d.Spoil("a", 0, 1); e != api.ErrRange {
		t.Errorf("Spoil of what does not last: %v", e)
	}
	d.Sync()
	d.Append("a", "def")
	for _, c := range []struct {
		name   string
		at, by int
		e      api.Errno
		want   string
	}{
		{"b", 0, 1, api.ErrNone, "abcdef"},
		{"", -1, 1, api.ErrNone, "abcdef"},
		{"a", -1, 1, api.ErrRange, "abcdef"},
		{"a", 3, 1, api.ErrRange, "abcdef"}, // seen, but it does not last
		{"a", 6, 1, api.ErrRange, "abcdef"},
		{"a", math.MaxInt, 1, api.ErrRange, "abcdef"},
		{"a", math.MinInt, 1, api.ErrRange, "abcdef"},
		{"a", 0, 0, api.OK, "abcdef"},
		{"a", 0, 32, api.OK, "Abcdef"},
		{"a", 2, 1, api.OK, "Abbdef"},
		{"a", 2, 256, api.OK, "Abbdef"},
		{"a", 2, 257, api.OK, "Abcdef"},
		{"a", 1, -1, api.OK, "A\x9dcdef"},
		{"a", 1, 255, api.OK, "Abcdef"},
		{"a", 1, math.MinInt, api.OK, "Abcdef"},
		{"a", 1, math.MaxInt, api.OK, "A\x9dcdef"},
	} {
		if e := d.Spoil(c.name, c.at, c.by); e != c.e || d.Waiting() != 1 {
			t.Errorf("Spoil(%q, %d, %d): %v, want %v", c.name, c.at, c.by, e, c.e)
		}
		holds(t, d, "a", c.want)
	}
	d.Crash(nil)
	holds(t, d, "a", "A\x9dc")
}

func TestSpoilWhereAPieceWaits(t *testing.T) {
	d := device(t, 4, "a")
	d.Write("a", 0, "abc")
	d.Sync()
	d.Write("a", 0, "A")
	if e := d.Spoil("a", 0, 1); e != api.OK {
		t.Fatalf("Spoil: %v", e)
	}
	// Both bytes at the place are other ones, what waits is as it was.
	holds(t, d, "a", "@bc")
	twin := d.Copy()
	d.Crash(nil)
	holds(t, d, "a", "`bc")
	twin.Crash([]int{1})
	holds(t, twin, "a", "Abc")
}

func TestCopy(t *testing.T) {
	d := device(t, 4, "a", "b")
	d.Write("a", 0, "synced")
	d.Sync()
	d.Write("a", 0, "S")
	d.Write("b", 0, "b")
	d.Arm(2)
	twin := d.Copy()
	if twin.Waiting() != 2 || twin.Writes() != 3 || twin.Free() != 2 || !twin.Up() {
		t.Fatalf("Waiting %d, Writes %d, Free %d, Up %v", twin.Waiting(), twin.Writes(), twin.Free(), twin.Up())
	}
	// What is done with one of them does nothing with the other one.
	d.Write("a", 1, "Y")
	d.Remove("b")
	d.Spoil("a", 2, 32)
	d.Create("c")
	holds(t, twin, "a", "Synced")
	holds(t, twin, "b", "b")
	twin.Append("a", "?")
	twin.Rename("b", "d")
	if e := twin.Append("a", "!"); e != api.OK {
		t.Fatalf("the second piece of the copy: %v", e)
	}
	if e := twin.Append("a", "!"); e != api.ErrDown || !d.Up() {
		t.Fatalf("the third piece of the copy: %v, %v", e, d.Up())
	}
	d.Crash([]int{1, 1})
	twin.Crash([]int{0, 1, 1})
	holds(t, d, "a", "SYNced")
	holds(t, twin, "a", "synced?")
	holds(t, twin, "d", "b")
	if names, _ := d.List(); !slices.Equal(names, []string{"a", "c"}) {
		t.Errorf("List: %q", names)
	}
	if names, _ := twin.List(); !slices.Equal(names, []string{"a", "d"}) {
		t.Errorf("List of the copy: %q", names)
	}
}

func TestCopyOfWhatWaits(t *testing.T) {
	for n := range 9 {
		d := device(t, 4, "a", "b")
		for range n {
			d.Append("a", "x")
		}
		twin := d.Copy()
		// Neither a piece more, nor a new name of those that wait, nor their going is the other's.
		d.Append("a", "first")
		twin.Append("a", "twin")
		third := twin.Copy()
		twin.Rename("a", "c")
		third.Remove("a")
		d.Sync()
		twin.Sync()
		d.Crash(nil)
		twin.Crash(nil)
		holds(t, d, "a", strings.Repeat("x", n)+"first")
		holds(t, twin, "c", strings.Repeat("x", n)+"twin")
	}
}

func TestCopyAsTheFirst(t *testing.T) {
	chance := rand.New(rand.NewSource(145))
	for range 200 {
		sectors := chance.Intn(16)
		d, p := device(t, sectors), newPlain(sectors)
		for range 30 {
			step(t, chance, d, p)
		}
		twin := d.Copy()
		aside := rand.New(rand.NewSource(chance.Int63()))
		e, q := d.Copy(), *p
		q.lasts, q.seen = clone(p.lasts), clone(p.seen)
		q.waits = slices.Clone(p.waits)
		for range 20 {
			step(t, aside, e, &q)
		}
		for range 20 {
			step(t, chance, twin, p)
		}
	}
}

func clone(m map[string]string) map[string]string {
	x := map[string]string{}
	for k, v := range m {
		x[k] = v
	}
	return x
}

// A device that is copied as a struct shares files with the first, and must not panic where these went.
func TestStructCopied(t *testing.T) {
	d := device(t, 4, "a", "b")
	d.Write("a", 0, "a")
	d.Write("b", 0, "b")
	x, y := *d, *d
	d.Remove("a")
	if e := x.Sync(); e != api.OK {
		t.Errorf("Sync: %v", e)
	}
	y.Crash([]int{1, 1})
}

// 14.6

// files are all files of a device that has power.
func files(t *testing.T, d *disk.Disk) map[string]string {
	t.Helper()
	names, e := d.List()
	if e != api.OK {
		t.Fatalf("List: %v", e)
	}
	m := map[string]string{}
	for _, name := range names {
		m[name] = all(t, d, name)
	}
	return m
}

// alike tells whether two devices' files are.
func alike(a, b map[string]string) bool {
	for name, s := range a {
		if x, ok := b[name]; !ok || x != s {
			return false
		}
	}
	return len(a) == len(b)
}

func TestSyncedStays(t *testing.T) {
	chance := rand.New(rand.NewSource(146))
	for range 400 {
		d := device(t, 12, "a", "b")
		scribble := func() {
			for range chance.Intn(8) {
				name := []string{"a", "b"}[chance.Intn(2)]
				if chance.Intn(2) == 0 {
					d.Append(name, text(chance, chance.Intn(99)))
				} else {
					d.Write(name, chance.Intn(250), text(chance, chance.Intn(99)))
				}
			}
		}
		scribble()
		if e := d.Sync(); e != api.OK {
			t.Fatal(e)
		}
		synced, free := files(t, d), d.Free()
		if chance.Intn(2) == 0 {
			d.Arm(chance.Intn(9))
		}
		scribble()
		d.Crash(make([]int, chance.Intn(9)))
		if !alike(files(t, d), synced) || d.Free() != free {
			t.Fatal("what was synced does not stay")
		}
		for _, fates := range [][]int{nil, {1, 1, 1}, {2}} {
			d.Crash(fates)
			if !alike(files(t, d), synced) || d.Free() != free {
				t.Fatal("a crash without anything waiting changes something")
			}
		}
	}
}

func TestSyncedStaysWhereNothingLasts(t *testing.T) {
	chance := rand.New(rand.NewSource(1466))
	for range 400 {
		d := device(t, 40, "a")
		first := text(chance, 1+chance.Intn(500))
		d.Write("a", 0, first)
		d.Sync()
		// All that is written behind lies in the second half: the first one stays, whatever lasts.
		half := len(first) / 2
		for range 1 + chance.Intn(5) {
			d.Write("a", half+chance.Intn(500), text(chance, chance.Intn(200)))
		}
		fates := make([]int, d.Waiting())
		for i := range fates {
			fates[i] = chance.Intn(4)
		}
		d.Crash(fates)
		if s, e := d.Read("a", 0, half); s != first[:half] || e != api.OK {
			t.Fatalf("Read: %q, %v, want %q", s, e, first[:half])
		}
		if n, _ := d.Size("a"); n < len(first) {
			t.Fatalf("Size %d, %d were synced", n, len(first))
		}
	}
}
