package disk

import (
	"slices"

	"barque/api"
)

// Fates: what becomes in a crash of a piece that waits.
const (
	lost = iota
	lasts
	torn
)

// noFuse stands where there is none.
const noFuse = -1

// Arm lets the power fail behind so many pieces.
func (d *Disk) Arm(n int) api.Errno {
	if e := d.ready(); e != api.OK {
		return e
	}
	if n < 0 {
		return api.ErrArg
	}
	d.fuse = n
	return api.OK
}

// Crash lets the power fail, if it has not, and come again: of each piece that waits its fate says what lasts.
func (d *Disk) Crash(fates []int) {
	if !d.made() {
		return
	}
	for i, p := range d.waits {
		fate := lost
		if i < len(fates) {
			fate = fates[i]
		}
		d.meet(p, fate)
	}
	for _, f := range d.files {
		f.seen = slices.Clone(f.lasts)
	}
	d.waits, d.fuse, d.down = nil, noFuse, false
}

// meet lets last of a piece what its fate says.
func (d *Disk) meet(p piece, fate int) {
	switch fate {
	case torn:
		p.text = p.text[:len(p.text)/2]
		fallthrough
	case lasts:
		d.last(p)
	}
}

// Spoil changes a byte that lasts of a file, and the one that is seen at its place, even where that waits.
func (d *Disk) Spoil(name string, at, by int) api.Errno {
	if !d.made() {
		return api.ErrArg
	}
	f := d.files[name]
	if f == nil {
		return api.ErrNone
	}
	if at < 0 || at >= len(f.lasts) {
		return api.ErrRange
	}
	f.lasts[at] ^= byte(by)
	if at < len(f.seen) {
		f.seen[at] ^= byte(by)
	}
	return api.OK
}

// Copy is another device that stands as this one.
func (d *Disk) Copy() *Disk {
	if !d.made() {
		return nil
	}
	twin := *d
	twin.files = map[string]*file{}
	for name, f := range d.files {
		twin.files[name] = &file{slices.Clone(f.lasts), slices.Clone(f.seen)}
	}
	twin.waits = slices.Clone(d.waits)
	return &twin
}
