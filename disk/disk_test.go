package disk_test

import (
	"math"
	"math/rand"
	"slices"
	"strings"
	"testing"
	"unsafe"

	"barque/api"
	"barque/disk"
)

// longest is the longest name that a file may have.
const longest = "abcdefghijklmnopqrstuvwx"

// wrongNames are no names.
func wrongNames() []string {
	return []string{"", longest + "y", strings.Repeat("x", 1000), " ", "a b", "a\x00", "\x1f", "\x7f", "a\x80", "\xff", "ä", "a\n"}
}

// ask asks a device all that may be refused, and tells which answers there were.
func ask(d *disk.Disk) map[string]api.Errno {
	m := map[string]api.Errno{
		"Create":           d.Create("a"),
		"Create of none":   d.Create(""),
		"Remove":           d.Remove("a"),
		"Remove of none":   d.Remove("nobody"),
		"Rename":           d.Rename("a", "b"),
		"Rename to none":   d.Rename("a", ""),
		"Rename of none":   d.Rename("nobody", "b"),
		"Write":            d.Write("a", 0, "x"),
		"Write of nothing": d.Write("a", 0, ""),
		"Write too far":    d.Write("a", -1, "x"),
		"Write to none":    d.Write("nobody", 0, "x"),
		"Append":           d.Append("a", "x"),
		"Append to none":   d.Append("nobody", "x"),
		"Sync":             d.Sync(),
		"Arm":              d.Arm(3),
		"Arm below 0":      d.Arm(-1),
	}
	var names []string
	var n int
	var s string
	if names, m["List"] = d.List(); len(names) > 0 {
		m["List"] = -1
	}
	if n, m["Size"] = d.Size("a"); n != 0 {
		m["Size"] = -1
	}
	if s, m["Read"] = d.Read("a", 0, 1); s != "" {
		m["Read"] = -1
	}
	if s, m["Read too far"] = d.Read("a", -1, -1); s != "" {
		m["Read too far"] = -1
	}
	if s, m["Read of none"] = d.Read("nobody", 0, 1); s != "" {
		m["Read of none"] = -1
	}
	return m
}

// 14.1

func TestNew(t *testing.T) {
	for _, sectors := range []int{0, 1, 2, 64, api.MaxSectors - 1, api.MaxSectors} {
		d := device(t, sectors)
		same(t, d, newPlain(sectors))
		if d.Free() != sectors || !d.Up() {
			t.Errorf("New(%d): Free %d, Up %v", sectors, d.Free(), d.Up())
		}
	}
	for _, sectors := range []int{-1, math.MinInt, api.MaxSectors + 1, 1 << 32, math.MaxInt} {
		if d, e := disk.New(sectors); d != nil || e != api.ErrArg {
			t.Errorf("New(%d): %v, %v", sectors, d, e)
		}
	}
}

func TestNilDisk(t *testing.T) {
	for name, d := range map[string]*disk.Disk{"nil": nil, "that New did not make": {}} {
		for what, e := range ask(d) {
			if e != api.ErrArg {
				t.Errorf("a device %s: %s: %v", name, what, e)
			}
		}
		for _, at := range []int{0, -1, math.MaxInt} {
			if e := d.Spoil("a", at, 1); e != api.ErrArg {
				t.Errorf("a device %s: Spoil: %v", name, e)
			}
		}
		d.Crash(nil)
		d.Crash([]int{1, 2, 3})
		if d.Free() != 0 || d.Waiting() != 0 || d.Writes() != 0 || d.Up() || d.Copy() != nil {
			t.Errorf("a device %s has something", name)
		}
	}
}

func TestPowerOff(t *testing.T) {
	d, p := device(t, 4, "a"), newPlain(4)
	p.create("a")
	d.Write("a", 0, "ab")
	d.Sync()
	d.Write("a", 1, "c")
	d.Arm(0)
	if e := d.Append("a", "d"); e != api.ErrDown || d.Up() {
		t.Fatalf("Append at the power's end: %v, %v", e, d.Up())
	}
	for range 2 {
		for what, e := range ask(d) {
			if e != api.ErrDown {
				t.Errorf("%s without power: %v", what, e)
			}
		}
	}
	// What 14.5 names needs no power.
	if d.Free() != 3 || d.Waiting() != 1 || d.Writes() != 2 || d.Up() {
		t.Errorf("Free %d, Waiting %d, Writes %d, Up %v", d.Free(), d.Waiting(), d.Writes(), d.Up())
	}
	if e := d.Spoil("a", 0, 2); e != api.OK {
		t.Errorf("Spoil: %v", e)
	}
	if e := d.Spoil("b", 0, 1); e != api.ErrNone {
		t.Errorf("Spoil of none: %v", e)
	}
	if e := d.Spoil("a", 2, 1); e != api.ErrRange {
		t.Errorf("Spoil too far: %v", e)
	}
	twin := d.Copy()
	if twin.Up() || twin.Sync() != api.ErrDown {
		t.Error("a copy of a device without power has some")
	}
	for _, x := range []*disk.Disk{d, twin} {
		x.Crash([]int{1})
		if !x.Up() {
			t.Error("no power behind a crash")
		}
		holds(t, x, "a", "cc")
		// The fuse is gone.
		if e := x.Write("a", 0, strings.Repeat("x", 256)); e != api.OK {
			t.Errorf("Write behind a crash: %v", e)
		}
	}
}

// 14.2

func TestNames(t *testing.T) {
	d := device(t, 1)
	for c := byte('!'); c <= '~'; c++ {
		if e := d.Create(string(rune(c))); e != api.OK {
			t.Errorf("Create of %q: %v", c, e)
		}
	}
	for _, name := range []string{longest, "seg-00000001", "a/b", "..", "!~"} {
		if e := d.Create(name); e != api.OK {
			t.Errorf("Create of %q: %v", name, e)
		}
		if e := d.Create(name); e != api.ErrExist {
			t.Errorf("Create of %q once more: %v", name, e)
		}
	}
	for _, name := range wrongNames() {
		if e := d.Create(name); e != api.ErrArg {
			t.Errorf("Create of %q: %v", name, e)
		}
		if e := d.Rename("a", name); e != api.ErrArg {
			t.Errorf("Rename to %q: %v", name, e)
		}
		if e := d.Rename(name, "new"); e != api.ErrNone {
			t.Errorf("Rename of %q: %v", name, e)
		}
		if e := d.Remove(name); e != api.ErrNone {
			t.Errorf("Remove of %q: %v", name, e)
		}
	}
	names, e := d.List()
	if len(names) != 94+5 || e != api.OK || !slices.IsSorted(names) {
		t.Errorf("List: %q, %v", names, e)
	}
}

func TestList(t *testing.T) {
	d := device(t, 1)
	if names, e := d.List(); len(names) != 0 || e != api.OK {
		t.Errorf("List of none: %q, %v", names, e)
	}
	for _, name := range []string{"b", "a", "B", "aa", "~", "a!", "!"} {
		d.Create(name)
	}
	want := []string{"!", "B", "a", "a!", "aa", "b", "~"}
	if names, e := d.List(); !slices.Equal(names, want) || e != api.OK {
		t.Errorf("List: %q, %v, want %q", names, e, want)
	}
}

func TestRemove(t *testing.T) {
	d := device(t, 4, "a", "b")
	d.Write("a", 0, strings.Repeat("x", 100))
	d.Sync()
	d.Write("a", 0, strings.Repeat("y", 100))
	d.Write("b", 0, "z")
	d.Write("a", 100, "w")
	if d.Waiting() != 4 || d.Free() != 1 {
		t.Fatalf("Waiting %d, Free %d", d.Waiting(), d.Free())
	}
	if e := d.Remove("a"); e != api.OK || d.Waiting() != 1 || d.Free() != 3 || d.Writes() != 6 {
		t.Fatalf("Remove: %v, Waiting %d, Free %d, Writes %d", e, d.Waiting(), d.Free(), d.Writes())
	}
	if e := d.Remove("a"); e != api.ErrNone {
		t.Errorf("Remove once more: %v", e)
	}
	// That it is gone lasts at once, and the fate is of what waits yet.
	d.Create("a")
	d.Crash([]int{1})
	holds(t, d, "a", "")
	holds(t, d, "b", "z")
	d.Remove("a")
	d.Crash(nil)
	if names, _ := d.List(); !slices.Equal(names, []string{"b"}) {
		t.Errorf("List behind a crash: %q", names)
	}
}

func TestRename(t *testing.T) {
	d := device(t, 4, "a", "b")
	d.Write("a", 0, "synced")
	d.Sync()
	d.Write("a", 0, "S")
	d.Write("b", 0, "other")
	d.Write("a", 6, "!")
	for _, c := range []struct {
		from, to string
		e        api.Errno
	}{
		{"nobody", "", api.ErrArg},
		{"nobody", "a", api.ErrNone},
		{"nobody", "nobody", api.ErrNone},
		{"a", "b", api.ErrExist},
		{"a", "a", api.ErrExist},
		{"a", longest + "y", api.ErrArg},
		{"a", longest, api.OK},
		{"a", "c", api.ErrNone},
		{"b", "a", api.OK},
	} {
		if e := d.Rename(c.from, c.to); e != c.e || d.Waiting() != 3 {
			t.Errorf("Rename(%q, %q): %v, Waiting %d, want %v", c.from, c.to, e, d.Waiting(), c.e)
		}
	}
	holds(t, d, longest, "Synced!")
	holds(t, d, "a", "other")
	// The new name lasts at once, and what waits goes with it.
	twin := d.Copy()
	d.Crash(nil)
	holds(t, d, longest, "synced")
	holds(t, d, "a", "")
	twin.Crash([]int{1, 1, 1})
	holds(t, twin, longest, "Synced!")
	holds(t, twin, "a", "other")
}

func TestRead(t *testing.T) {
	d := device(t, 1, "a")
	if s, e := d.Read("a", 0, 5); s != "" || e != api.OK {
		t.Errorf("Read of nothing: %q, %v", s, e)
	}
	d.Write("a", 0, "abcdef")
	for _, c := range []struct {
		at, n int
		s     string
		e     api.Errno
	}{
		{0, 6, "abcdef", api.OK},
		{0, 0, "", api.OK},
		{1, 2, "bc", api.OK},
		{5, 1, "f", api.OK},
		{5, 2, "f", api.OK},
		{6, 1, "", api.OK},
		{7, 1, "", api.OK},
		{1, math.MaxInt, "bcdef", api.OK},
		{math.MaxInt, math.MaxInt, "", api.OK},
		{math.MaxInt, 0, "", api.OK},
		{-1, 2, "", api.ErrRange},
		{0, -1, "", api.ErrRange},
		{9, -1, "", api.ErrRange},
		{math.MinInt, math.MinInt, "", api.ErrRange},
	} {
		if s, e := d.Read("a", c.at, c.n); s != c.s || e != c.e {
			t.Errorf("Read at %d of %d: %q, %v, want %q, %v", c.at, c.n, s, e, c.s, c.e)
		}
	}
	if s, e := d.Read("b", -1, -1); s != "" || e != api.ErrNone {
		t.Errorf("Read of no file: %q, %v", s, e)
	}
	if n, e := d.Size("b"); n != 0 || e != api.ErrNone {
		t.Errorf("Size of no file: %d, %v", n, e)
	}
	if n, e := d.Size("a"); n != 6 || e != api.OK {
		t.Errorf("Size: %d, %v", n, e)
	}
}

// 14.3

func TestWriteErrors(t *testing.T) {
	const most = 64 * api.MaxSectors
	d := device(t, 2, "a")
	d.Write("a", 0, "abc")
	for _, c := range []struct {
		name string
		at   int
		s    string
		e    api.Errno
	}{
		{"b", 0, "x", api.ErrNone},
		{"b", -1, "x", api.ErrNone},
		{"", 0, "", api.ErrNone},
		{"a", -1, "x", api.ErrRange},
		{"a", -1, "", api.ErrRange},
		{"a", math.MinInt, "x", api.ErrRange},
		{"a", most, "x", api.ErrRange},
		{"a", most + 1, "", api.ErrRange},
		{"a", math.MaxInt, "x", api.ErrRange},
		{"a", math.MaxInt, "", api.ErrRange},
		{"a", 1, strings.Repeat("x", most), api.ErrRange},
		{"a", 0, strings.Repeat("x", most+1), api.ErrRange},
		{"a", 0, strings.Repeat("x", most), api.ErrFull},
		{"a", most - 1, "x", api.ErrFull},
		{"a", 128, "x", api.ErrFull},
		{"a", 127, "xy", api.ErrFull},
		{"a", most, "", api.OK},
		{"a", 128, "", api.OK},
		{"a", 9, "", api.OK},
		{"a", 0, "", api.OK},
	} {
		if e := d.Write(c.name, c.at, c.s); e != c.e || d.Free() != 1 || d.Waiting() != 1 || d.Writes() != 1 {
			t.Errorf("Write(%q, %d, %d bytes): %v, Free %d, Waiting %d, want %v", c.name, c.at, len(c.s), e, d.Free(), d.Waiting(), c.e)
		}
		holds(t, d, "a", "abc")
	}
	if e := d.Append("b", ""); e != api.ErrNone {
		t.Errorf("Append to no file: %v", e)
	}
	if e := d.Append("a", strings.Repeat("x", 126)); e != api.ErrFull {
		t.Errorf("Append of too much: %v", e)
	}
	if e := d.Append("a", strings.Repeat("x", most-2)); e != api.ErrRange {
		t.Errorf("Append beyond the end of all: %v", e)
	}
	holds(t, d, "a", "abc")
}

func TestWritePieces(t *testing.T) {
	for _, c := range []struct{ at, n, pieces int }{
		{0, 1, 1}, {0, 64, 1}, {0, 65, 2}, {63, 1, 1}, {63, 2, 2}, {64, 64, 1}, {60, 8, 2}, {1, 64, 2}, {1, 63, 1}, {10, 182, 3}, {10, 183, 4}, {5, 0, 0}, {700, 1, 1},
	} {
		d := device(t, 20, "a")
		s := strings.Repeat("x", c.n)
		if e := d.Write("a", c.at, s); e != api.OK || d.Waiting() != c.pieces || d.Writes() != c.pieces {
			t.Errorf("Write at %d of %d bytes: %v, Waiting %d, Writes %d, want %d", c.at, c.n, e, d.Waiting(), d.Writes(), c.pieces)
		}
		want := ""
		if c.n > 0 {
			want = strings.Repeat("\x00", c.at) + s
		}
		holds(t, d, "a", want)
	}
}

func TestWriteOver(t *testing.T) {
	d := device(t, 4, "a")
	d.Write("a", 0, "abcdef")
	d.Write("a", 2, "XY")
	holds(t, d, "a", "abXYef")
	d.Write("a", 5, "123")
	holds(t, d, "a", "abXYe123")
	d.Append("a", "")
	d.Append("a", "!")
	holds(t, d, "a", "abXYe123!")
	d.Write("a", 11, "?")
	holds(t, d, "a", "abXYe123!\x00\x00?")
	// A place that was lost is 0 again where it lies in a gap.
	d.Crash(nil)
	d.Write("a", 3, "?")
	holds(t, d, "a", "\x00\x00\x00?")
}

func TestSectors(t *testing.T) {
	d := device(t, 4, "a", "b")
	for _, c := range []struct {
		name    string
		at      int
		s       string
		e       api.Errno
		waiting int
		free    int
	}{
		{"a", 0, "x", api.OK, 1, 3},
		{"a", 63, "x", api.OK, 2, 3},
		{"b", 64, "x", api.OK, 3, 1}, // the gap takes one, too
		{"b", 0, "x", api.OK, 4, 1},
		{"a", 128, "x", api.ErrFull, 4, 1},
		{"a", 0, strings.Repeat("y", 129), api.ErrFull, 4, 1},
		{"a", 0, strings.Repeat("y", 128), api.OK, 6, 0},
		{"b", 128, "", api.OK, 6, 0},
		{"b", 127, "z", api.OK, 7, 0},
		{"b", 128, "z", api.ErrFull, 7, 0},
		{"a", 0, strings.Repeat("w", 128), api.OK, 9, 0}, // what is there already needs no more
	} {
		if e := d.Write(c.name, c.at, c.s); e != c.e || d.Waiting() != c.waiting || d.Free() != c.free {
			t.Errorf("Write(%q, %d, %d bytes): %v, Waiting %d, Free %d, want %v, %d, %d", c.name, c.at, len(c.s), e, d.Waiting(), d.Free(), c.e, c.waiting, c.free)
		}
	}
	d.Crash([]int{1})
	if d.Free() != 3 {
		t.Errorf("Free behind a crash: %d", d.Free())
	}
	none := device(t, 0, "a")
	if e := none.Write("a", 0, "x"); e != api.ErrFull {
		t.Errorf("Write to a device without sectors: %v", e)
	}
	if e := none.Write("a", 0, ""); e != api.OK {
		t.Errorf("Write of nothing to a device without sectors: %v", e)
	}
}

func TestFullDevice(t *testing.T) {
	s := text(rand.New(rand.NewSource(143)), 64*api.MaxSectors)
	d := device(t, api.MaxSectors, "a", "b")
	if e := d.Write("a", 0, s); e != api.OK || d.Free() != 0 || d.Waiting() != api.MaxSectors {
		t.Fatalf("Write of all: %v, Free %d, Waiting %d", e, d.Free(), d.Waiting())
	}
	if e := d.Append("b", "x"); e != api.ErrFull {
		t.Errorf("Append to a full device: %v", e)
	}
	if e := d.Append("a", "x"); e != api.ErrRange {
		t.Errorf("Append to a file that has all: %v", e)
	}
	d.Sync()
	d.Crash(nil)
	if all(t, d, "a") != s {
		t.Error("a whole device is another one")
	}
	end := device(t, api.MaxSectors, "a")
	if e := end.Write("a", 64*api.MaxSectors-1, "x"); e != api.OK || end.Free() != 0 || end.Waiting() != 1 {
		t.Errorf("Write at the last place: %v, Free %d", e, end.Free())
	}
}

func TestFuse(t *testing.T) {
	s := text(rand.New(rand.NewSource(1430)), 200)
	for fuse := range 6 {
		d := device(t, 9, "a")
		d.Arm(fuse)
		// At 30 the pieces have 34, 64, 64 and 38 bytes.
		e := d.Write("a", 30, s)
		if fuse >= 4 {
			if e != api.OK || !d.Up() || d.Waiting() != 4 {
				t.Errorf("a fuse of %d: %v, Up %v, Waiting %d", fuse, e, d.Up(), d.Waiting())
			}
			continue
		}
		if e != api.ErrDown || d.Up() || d.Waiting() != fuse || d.Writes() != fuse {
			t.Errorf("a fuse of %d: %v, Up %v, Waiting %d, Writes %d", fuse, e, d.Up(), d.Waiting(), d.Writes())
		}
		want := ""
		if fuse > 0 {
			want = strings.Repeat("\x00", 30) + s[:34+64*(fuse-1)]
		}
		if free := 9 - (len(want)+63)/64; d.Free() != free {
			t.Errorf("a fuse of %d: Free %d, want %d", fuse, d.Free(), free)
		}
		d.Crash([]int{1, 1, 1, 1})
		holds(t, d, "a", want)
	}
}

func TestFuseBurnsByPiecesAlone(t *testing.T) {
	d := device(t, 2, "a")
	d.Arm(2)
	d.Create("b")
	d.Write("a", 0, "")
	d.Write("a", -1, "x")
	d.Write("a", 0, strings.Repeat("x", 200))
	d.Write("c", 0, "x")
	d.Read("a", 0, 9)
	d.Append("a", "x")
	d.Sync()
	d.Rename("b", "c")
	if e := d.Append("a", "y"); e != api.OK {
		t.Fatalf("the second piece: %v", e)
	}
	d.Remove("c")
	d.Sync()
	if e := d.Write("a", 0, ""); e != api.OK || !d.Up() {
		t.Errorf("a write of nothing at the power's end: %v", e)
	}
	if e := d.Write("a", 0, strings.Repeat("x", 200)); e != api.ErrFull || !d.Up() {
		t.Errorf("a write without room at the power's end: %v", e)
	}
	if e := d.Append("a", "z"); e != api.ErrDown || d.Up() {
		t.Errorf("the third piece: %v", e)
	}
	d.Crash(nil)
	holds(t, d, "a", "xy")
}

// R3

// memory is whether two texts, neither of which is empty, share memory.
func memory(a, b string) bool {
	x, y := uintptr(unsafe.Pointer(unsafe.StringData(a))), uintptr(unsafe.Pointer(unsafe.StringData(b)))
	return x < y+uintptr(len(b)) && y < x+uintptr(len(a))
}

func TestSharesNothing(t *testing.T) {
	d := device(t, 4)
	name, to, bytes := []byte("name"), []byte("else"), []byte("abcd")
	handed := func(b []byte) string { return unsafe.String(&b[0], len(b)) }
	d.Create(handed(name))
	d.Write(handed(name), 0, handed(bytes))
	d.Append(handed(name), handed(bytes))
	copy(name, "xxxx")
	copy(bytes, "yyyy")
	d.Create("other")
	d.Write("other", 0, "z")
	d.Rename("other", handed(to))
	copy(to, "wwww")
	names, _ := d.List()
	again, _ := d.List()
	if want := []string{"else", "name"}; !slices.Equal(names, want) {
		t.Fatalf("List: %q, want %q", names, want)
	}
	if memory(names[0], again[0]) {
		t.Error("two lists share a name's memory")
	}
	names[0] = "x"
	if again[0] != "else" {
		t.Error("two lists share memory")
	}
	copy(unsafe.Slice(unsafe.StringData(names[1]), 4), "????")
	fates := []int{1, 1, 1}
	d.Crash(fates)
	if !slices.Equal(fates, []int{1, 1, 1}) {
		t.Errorf("the fates are changed: %v", fates)
	}
	holds(t, d, "name", "abcdabcd")
	holds(t, d, "else", "z")
	s, _ := d.Read("name", 0, 8)
	copy(unsafe.Slice(unsafe.StringData(s), 8), "????????")
	holds(t, d, "name", "abcdabcd")
}
