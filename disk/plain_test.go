package disk_test

import (
	"math/rand"
	"slices"
	"strings"
	"testing"

	"barque/api"
	"barque/disk"
)

// device is a device of so many sectors, with these empty files.
func device(t *testing.T, sectors int, names ...string) *disk.Disk {
	t.Helper()
	d, e := disk.New(sectors)
	if d == nil || e != api.OK {
		t.Fatalf("New(%d): %v, %v", sectors, d, e)
	}
	for _, name := range names {
		if e := d.Create(name); e != api.OK {
			t.Fatalf("Create(%q): %v", name, e)
		}
	}
	return d
}

// text is any text of so many bytes, none of which is 0.
func text(chance *rand.Rand, n int) string {
	b := make([]byte, n)
	for i := range b {
		b[i] = byte('a' + chance.Intn(26))
	}
	return string(b)
}

// all is the whole of a file.
func all(t *testing.T, d *disk.Disk, name string) string {
	t.Helper()
	n, e := d.Size(name)
	if e != api.OK {
		t.Fatalf("Size(%q): %v", name, e)
	}
	s, e := d.Read(name, 0, n)
	if e != api.OK || len(s) != n {
		t.Fatalf("Read(%q, 0, %d): %d bytes, %v", name, n, len(s), e)
	}
	return s
}

// holds tells whether a file has just this text.
func holds(t *testing.T, d *disk.Disk, name, s string) {
	t.Helper()
	if x := all(t, d, name); x != s {
		t.Fatalf("%q has %q, want %q", name, x, s)
	}
}

// plain is a device as the document tells it, of texts that are made anew byte by byte.
type plain struct {
	sectors, fuse, writes int
	off                   bool
	lasts, seen           map[string]string
	waits                 []plainPiece
}

type plainPiece struct {
	name string
	at   int
	s    string
}

func newPlain(sectors int) *plain {
	return &plain{sectors: sectors, fuse: -1, lasts: map[string]string{}, seen: map[string]string{}}
}

// laid is a text with another one laid over it; the empty one leaves it as it is.
func laid(under string, at int, s string) (x string) {
	if s == "" {
		return under
	}
	for i := range max(len(under), at+len(s)) {
		switch {
		case i >= at && i < at+len(s):
			x += s[i-at : i-at+1]
		case i < len(under):
			x += under[i : i+1]
		default:
			x += "\x00"
		}
	}
	return x
}

func plainName(s string) bool {
	return len(s) >= 1 && len(s) <= 24 && strings.IndexFunc(s, func(c rune) bool { return c < 33 || c > 126 }) < 0
}

func plainSectors(n int) (sectors int) {
	for ; n > 0; n -= 64 {
		sectors++
	}
	return sectors
}

func (p *plain) free() int {
	n := p.sectors
	for name := range p.seen {
		n -= plainSectors(max(len(p.seen[name]), len(p.lasts[name])))
	}
	return n
}

// there is what a call tells ahead of all that is its own: OK, if the power is on and that file there.
func (p *plain) there(name string) api.Errno {
	if p.off {
		return api.ErrDown
	}
	if _, ok := p.seen[name]; !ok {
		return api.ErrNone
	}
	return api.OK
}

func (p *plain) create(name string) api.Errno {
	switch e := p.there(name); {
	case e == api.ErrDown:
		return e
	case !plainName(name):
		return api.ErrArg
	case e == api.OK:
		return api.ErrExist
	}
	p.lasts[name], p.seen[name] = "", ""
	return api.OK
}

func (p *plain) remove(name string) api.Errno {
	if e := p.there(name); e != api.OK {
		return e
	}
	delete(p.lasts, name)
	delete(p.seen, name)
	var stay []plainPiece
	for _, x := range p.waits {
		if x.name != name {
			stay = append(stay, x)
		}
	}
	p.waits = stay
	return api.OK
}

func (p *plain) rename(from, to string) api.Errno {
	switch e := p.there(from); {
	case e == api.ErrDown:
		return e
	case !plainName(to):
		return api.ErrArg
	case e != api.OK:
		return e
	case p.there(to) == api.OK:
		return api.ErrExist
	}
	p.lasts[to], p.seen[to] = p.lasts[from], p.seen[from]
	delete(p.lasts, from)
	delete(p.seen, from)
	for i, x := range p.waits {
		if x.name == from {
			p.waits[i].name = to
		}
	}
	return api.OK
}

func (p *plain) write(name string, at int, s string) api.Errno {
	if e := p.there(name); e != api.OK {
		return e
	}
	if at < 0 || at > 1<<21 || at+len(s) > 1<<21 {
		return api.ErrRange
	}
	if s != "" && plainSectors(max(at+len(s), len(p.seen[name])))-plainSectors(len(p.seen[name])) > p.free() {
		return api.ErrFull
	}
	for i := 0; i < len(s); {
		end := i + 1
		for end < len(s) && (at+end)%64 != 0 {
			end++
		}
		if p.fuse == 0 {
			p.off = true
			return api.ErrDown
		}
		p.fuse--
		p.seen[name] = laid(p.seen[name], at+i, s[i:end])
		p.waits = append(p.waits, plainPiece{name, at + i, s[i:end]})
		p.writes++
		i = end
	}
	return api.OK
}

func (p *plain) sync() api.Errno {
	if p.off {
		return api.ErrDown
	}
	for _, x := range p.waits {
		p.lasts[x.name] = laid(p.lasts[x.name], x.at, x.s)
	}
	p.waits = nil
	return api.OK
}

func (p *plain) arm(n int) api.Errno {
	switch {
	case p.off:
		return api.ErrDown
	case n < 0:
		return api.ErrArg
	}
	p.fuse = n
	return api.OK
}

func (p *plain) crash(fates []int) {
	for i, x := range p.waits {
		if i < len(fates) && fates[i] == 1 {
			p.lasts[x.name] = laid(p.lasts[x.name], x.at, x.s)
		}
		if i < len(fates) && fates[i] == 2 {
			p.lasts[x.name] = laid(p.lasts[x.name], x.at, x.s[:len(x.s)/2])
		}
	}
	for name, s := range p.lasts {
		p.seen[name] = s
	}
	p.waits, p.fuse, p.off = nil, -1, false
}

func (p *plain) spoil(name string, at, by int) api.Errno {
	if _, ok := p.seen[name]; !ok {
		return api.ErrNone
	}
	if at < 0 || at >= len(p.lasts[name]) {
		return api.ErrRange
	}
	for _, m := range []map[string]string{p.lasts, p.seen} {
		m[name] = laid(m[name], at, string([]byte{m[name][at] ^ byte(by&255)}))
	}
	return api.OK
}

// same tells whether a device answers all as a plain one does.
func same(t *testing.T, d *disk.Disk, p *plain) {
	t.Helper()
	if d.Free() != p.free() || d.Waiting() != len(p.waits) || d.Writes() != p.writes || d.Up() == p.off {
		t.Fatalf("Free %d, Waiting %d, Writes %d, Up %v, want %d, %d, %d, %v", d.Free(), d.Waiting(), d.Writes(), d.Up(), p.free(), len(p.waits), p.writes, !p.off)
	}
	names, e := d.List()
	if p.off {
		if names != nil || e != api.ErrDown {
			t.Fatalf("List without power: %q, %v", names, e)
		}
		return
	}
	var want []string
	for name := range p.seen {
		want = append(want, name)
	}
	slices.Sort(want)
	if !slices.Equal(names, want) || e != api.OK {
		t.Fatalf("List: %q, %v, want %q", names, e, want)
	}
	for _, name := range want {
		holds(t, d, name, p.seen[name])
	}
}

// step does any one thing to both.
func step(t *testing.T, chance *rand.Rand, d *disk.Disk, p *plain) {
	t.Helper()
	names := []string{"a", "b", "A", "a1", "~", "", "a b"}
	name, other := names[chance.Intn(len(names))], names[chance.Intn(len(names))]
	at, s := chance.Intn(300), text(chance, chance.Intn(4)*chance.Intn(70))
	if chance.Intn(3) == 0 {
		at, s = chance.Intn(5)*64-chance.Intn(2), text(chance, chance.Intn(4))
	}
	var e, f api.Errno
	what := ""
	switch n := chance.Intn(40); {
	case n < 6:
		what, e, f = "Create", d.Create(name), p.create(name)
	case n < 7:
		what, e, f = "Remove", d.Remove(name), p.remove(name)
	case n < 9:
		what, e, f = "Rename", d.Rename(name, other), p.rename(name, other)
	case n < 20:
		what, e, f = "Write", d.Write(name, at, s), p.write(name, at, s)
	case n < 26:
		what, e, f = "Append", d.Append(name, s), p.write(name, len(p.seen[name]), s)
	case n < 29:
		what, e, f = "Sync", d.Sync(), p.sync()
	case n < 31:
		fuse := chance.Intn(9) - 1
		what, e, f = "Arm", d.Arm(fuse), p.arm(fuse)
	case n < 34:
		fates := make([]int, chance.Intn(len(p.waits)+3))
		for i := range fates {
			fates[i] = chance.Intn(5) - 1
		}
		what = "Crash"
		d.Crash(fates)
		p.crash(fates)
	default:
		by := chance.Intn(1<<20) - 1<<19
		what, e, f = "Spoil", d.Spoil(name, at, by), p.spoil(name, at, by)
	}
	if e != f {
		t.Fatalf("%s: %v, want %v (%q, %q, at %d, %d bytes)", what, e, f, name, other, at, len(s))
	}
	same(t, d, p)
}

// 14.1 to 14.5

func TestAsThePlainOne(t *testing.T) {
	chance := rand.New(rand.NewSource(14))
	for range 600 {
		sectors := chance.Intn(16)
		d, p := device(t, sectors), newPlain(sectors)
		for range 80 {
			step(t, chance, d, p)
		}
	}
}
