package roll

// weak is a weak sum: what it is in words of 16 bits is modulo 65536 of itself.
type weak struct{ a, b uint16 }

// of is a text's weak sum.
func of(s string) weak {
	var w weak
	for i := range len(s) {
		w.takeIn(s[i])
	}
	return w
}

// takeIn makes of a sum that of one byte more, behind the others.
func (w *weak) takeIn(c byte) {
	w.a += uint16(c)
	// Each byte ahead counts once more, and so does the new one.
	w.b += w.a
}

// letGo makes of the sum of n bytes that of all but the first.
func (w *weak) letGo(c byte, n int) {
	w.a -= uint16(c)
	w.b -= uint16(n) * uint16(c)
}

// with is the sum of a text, and one of n bytes behind it.
func (w weak) with(behind weak, n int) weak {
	// Each byte of the first counts n times more.
	return weak{w.a + behind.a, w.b + uint16(n)*w.a + behind.b}
}

// number is a sum as a number.
func (w weak) number() int { return int(w.a) | int(w.b)<<16 }

// halves is the sum that a number is.
func halves(n int) weak { return weak{uint16(n), uint16(n >> 16)} }

// isSum tells whether a number has 32 bits.
func isSum(n int) bool { return n>>32 == 0 }
