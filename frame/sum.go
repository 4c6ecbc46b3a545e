package frame

import (
	"math/bits"

	"barque/api"
)

// half is what four shifts make of a register 0 to 15: two of them take in a byte.
var half = [16]uint32{
	0x00000000, 0x1db71064, 0x3b6e20c8, 0x26d930ac,
	0x76dc4190, 0x6b6b51f4, 0x4db26158, 0x5005713c,
	0xedb88320, 0xf00f9344, 0xd6d6a3e8, 0xcb61b38c,
	0x9b64c2b0, 0x86d3d2d4, 0xa00ae278, 0xbdbdf21c,
}

// Sum is a text's sum.
func Sum(s string) int { return Add(0, s) }

// Add is the sum of a text that has the sum sum, and s behind it.
func Add(sum int, s string) int {
	r := ^uint32(sum)
	for i := range len(s) {
		r = takeIn(r, s[i])
	}
	return int(^r)
}

// takeIn is a register behind a byte.
func takeIn(r uint32, c byte) uint32 {
	r ^= uint32(c)
	r = r>>4 ^ half[r&15]
	return r>>4 ^ half[r&15]
}

// Join is the sum of two texts, one behind the other, by their sums and how long the second is.
func Join(a, b, n int) (int, api.Errno) {
	if !isSum(a) || !isSum(b) || n < 0 {
		return 0, api.ErrArg
	}
	return zerosUpTo(n).move(a, n) ^ b, api.OK
}

// isSum tells whether a number has 32 bits.
func isSum(n int) bool { return n>>32 == 0 }

// bitMap tells of each bit of 32 what becomes of it alone; of several comes the xor of what comes of each.
type bitMap [32]uint32

// of is what becomes of bits.
func (m *bitMap) of(r uint32) uint32 {
	var all uint32
	for ; r != 0; r &= r - 1 {
		all ^= m[bits.TrailingZeros32(r)]
	}
	return all
}

// twice is the map that does what this one does, two times.
func (m *bitMap) twice() bitMap {
	var t bitMap
	for i := range m {
		t[i] = m.of(m[i])
	}
	return t
}

// zeros are the maps by which 1, 2, 4, .. bytes 0 move a register, and what two sums differ in.
type zeros []bitMap

// zerosUpTo are as many as move by up to n bytes.
func zerosUpTo(n int) zeros {
	var z zeros
	var m bitMap
	for i := range m {
		m[i] = takeIn(1<<i, 0)
	}
	for range bits.Len(uint(n)) {
		z = append(z, m)
		m = m.twice()
	}
	return z
}

// move is what n bytes 0 make of a difference.
func (z zeros) move(sum, n int) int {
	r := uint32(sum)
	for i := range z {
		if n>>i&1 == 1 {
			r = z[i].of(r)
		}
	}
	return int(r)
}

// every is from how many bytes to how many a sum is kept.
const every = 64

// sums tells the sums of all pieces of a text, and goes through its bytes about once.
type sums struct {
	s    string
	kept []int // the sums of the first 0, every, 2 every, .. bytes, as far as they were asked for
	by   zeros
}

// newSums tells of the pieces of s that have up to MaxFrame bytes.
func newSums(s string) *sums {
	return &sums{s: s, kept: []int{0}, by: zerosUpTo(api.MaxFrame)}
}

// first is the sum of the first n bytes.
func (t *sums) first(n int) int {
	for last := len(t.kept) - 1; last < n/every; last++ {
		t.kept = append(t.kept, Add(t.kept[last], t.s[last*every:(last+1)*every]))
	}
	return Add(t.kept[n/every], t.s[n/every*every:n])
}

// add is what becomes of a sum by the bytes in from..to: two texts with these behind them go on to differ as by bytes 0, and the one is what stands ahead of from.
func (t *sums) add(sum, from, to int) int {
	return t.first(to) ^ t.by.move(t.first(from)^sum, to-from)
}
