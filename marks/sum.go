package marks

import (
	"math/bits"

	"barque/api"
)

const (
	blockBytes = 64
	sizeAt     = 56 // from there on the last block tells how many bits the text has
	rounds     = 64
)

// state is what SHA-256 has reckoned so far.
type state [8]uint32

// sums reckons SHA-256; it has what is the same for all texts, which takes longer to find than a short text's sum.
type sums struct {
	begin state
	add   [rounds]uint32 // what each round adds
}

// newSums finds what SHA-256 begins with, and adds, from the roots of primes.
func newSums() *sums {
	var k sums
	l := primes()
	for i := range k.begin {
		k.begin[i] = behindPoint(l[i], 2)
	}
	for i := range k.add {
		k.add[i] = behindPoint(l[i], 3)
	}
	return &k
}

// primes are the first of them, one a round.
func primes() [rounds]uint64 {
	var l [rounds]uint64
	found := 0
next:
	for n := uint64(2); found < len(l); n++ {
		for _, p := range l[:found] {
			if p*p > n {
				break
			}
			if n%p == 0 {
				continue next
			}
		}
		l[found] = n
		found++
	}
	return l
}

// behindPoint is the first 32 bits behind the point of the square root (power 2) or the cube root (power 3) of a number below 512.
func behindPoint(n uint64, power int) uint32 {
	// The root and its 32 bits are one whole number, found bit by bit: the greatest whose power is not above n shifted as far.
	var root uint64
	for bit := uint64(1) << 36; bit > 0; bit >>= 1 {
		if highWord(root|bit, power) < n<<(32*power-64) {
			root |= bit
		}
	}
	return uint32(root)
}

// highWord is a number's power without its lowest 64 bits.
func highWord(n uint64, power int) uint64 {
	high, low := uint64(0), uint64(1)
	for range power {
		over, rest := bits.Mul64(low, n)
		high, low = high*n+over, rest
	}
	return high
}

// of is SHA-256 of a text.
func (k *sums) of(s string) string {
	now, rest := k.begin, s
	var block [blockBytes]byte
	for len(rest) >= blockBytes {
		copy(block[:], rest)
		k.takeIn(&now, &block)
		rest = rest[blockBytes:]
	}
	clear(block[copy(block[:], rest):])
	block[len(rest)] = 128
	if len(rest) >= sizeAt {
		k.takeIn(&now, &block)
		clear(block[:])
	}
	size := uint64(len(s)) * 8
	for i := range blockBytes - sizeAt {
		block[blockBytes-1-i] = byte(size >> (8 * i))
	}
	k.takeIn(&now, &block)
	return now.text()
}

// takeIn goes on with a state by a block.
func (k *sums) takeIn(now *state, block *[blockBytes]byte) {
	w := spread(block)
	a, b, c, d := now[0], now[1], now[2], now[3]
	e, f, g, h := now[4], now[5], now[6], now[7]
	for i := range rounds {
		t := h + (right(e, 6) ^ right(e, 11) ^ right(e, 25)) + (e&f ^ ^e&g) + k.add[i] + w[i]
		u := (right(a, 2) ^ right(a, 13) ^ right(a, 22)) + (a&b ^ a&c ^ b&c)
		a, b, c, d, e, f, g, h = t+u, a, b, c, d+t, e, f, g
	}
	for i, x := range [...]uint32{a, b, c, d, e, f, g, h} {
		now[i] += x
	}
}

// spread makes of a block's words one for each round.
func spread(block *[blockBytes]byte) [rounds]uint32 {
	var w [rounds]uint32
	for i := range blockBytes / 4 {
		w[i] = uint32(block[4*i])<<24 | uint32(block[4*i+1])<<16 | uint32(block[4*i+2])<<8 | uint32(block[4*i+3])
	}
	for i := blockBytes / 4; i < rounds; i++ {
		x, y := w[i-15], w[i-2]
		w[i] = w[i-16] + (right(x, 7) ^ right(x, 18) ^ x>>3) + w[i-7] + (right(y, 17) ^ right(y, 19) ^ y>>10)
	}
	return w
}

// right turns a word to the right.
func right(x uint32, n int) uint32 { return bits.RotateLeft32(x, -n) }

// text is a state as bytes, the highest of each word first.
func (now *state) text() string {
	var b [api.MarkBytes]byte
	for i, w := range now {
		for j := range 4 {
			b[4*i+j] = byte(w >> (24 - 8*j))
		}
	}
	return string(b[:])
}
