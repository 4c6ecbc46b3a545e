package press

const chainBits = 13 // of as many bits is a chain's number

// places are the places of a text that were passed, in chains of those whose next bytes are alike (and of a few others that share the number). Of each place is kept the place plus 1: 0 is none.
type places struct {
	s     string
	last  [1 << chainBits]int // of each chain the last place
	ahead [mostBack]int       // of the last places the one ahead in the chain; by the place's rest, as those further back are never asked for
}

// add adds a place, which is the one behind those that were added.
func (p *places) add(at int) {
	// Behind a place with so few bytes no copy is sought.
	if at+leastCopy > len(p.s) {
		return
	}
	c := p.chain(at)
	p.ahead[at%mostBack] = p.last[c]
	p.last[c] = at + 1
}

// longest is how far back the longest copy at a place is, and how long: 0, if there is none. All places ahead of it were added.
func (p *places) longest(at int) (back, n int) {
	most := min(mostCopy, len(p.s)-at)
	if most < leastCopy {
		return 0, 0
	}
	next := p.s[at : at+most]
	// The nearest come first, so only a longer one is better.
	for from := p.last[p.chain(at)] - 1; from >= 0 && at-from <= mostBack && n < most; from = p.ahead[from%mostBack] - 1 {
		// One that is longer has this byte too: that most have not makes it quick.
		if p.s[from+n] != next[n] {
			continue
		}
		if m := alike(p.s[from:], next); m > n && m >= leastCopy {
			back, n = at-from, m
		}
	}
	return back, n
}

// chain is the number of a place's chain, by the bytes that the shortest copy has.
func (p *places) chain(at int) int {
	word := uint32(0)
	for i := range leastCopy {
		word = word<<8 | uint32(p.s[at+i])
	}
	// A product's upper bits hang on all bytes, so texts of few letters use all chains. The factor is 2^32 by the golden ratio.
	return int(word * 2654435769 >> (32 - chainBits))
}

// alike is how many bytes of a text stand at the beginning of another one too, which is longer.
func alike(s, next string) int {
	for i := range len(next) {
		if s[i] != next[i] {
			return i
		}
	}
	return len(next)
}
