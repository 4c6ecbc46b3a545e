package keep_test

import (
	"math"
	"slices"
	"testing"

	"barque/api"
	"barque/keep"
)

const most = 1 << 20

// wrong are policies that may not be.
func wrong() []api.Policy {
	return []api.Policy{
		{}, {Every: 1}, {Every: most},
		{Last: -1}, {Last: most + 1}, {Last: 1 << 21}, {Last: 1 << 32}, {Last: math.MinInt}, {Last: math.MaxInt},
		{Last: 1, Every: -1}, {Last: 1, Every: most + 1}, {Last: 1, Every: 1 << 32}, {Last: 1, Every: math.MinInt}, {Last: 1, Every: math.MaxInt},
		{Last: most, Every: most + 1}, {Last: most + 1, Every: most}, {Last: -1, Every: -1}, {Last: 0, Every: 0},
	}
}

// few are policies of small numbers, all of which may be.
func few() (l []api.Policy) {
	for last := 1; last < 9; last++ {
		for every := range 9 {
			l = append(l, api.Policy{Last: last, Every: every})
		}
	}
	return l
}

// plainKeeps is Keeps of a policy that may be, as the document tells it: it counts those that lie from a generation on to the top, and goes through the multiples.
func plainKeeps(p api.Policy, gen, top int) bool {
	if gen < 0 || gen > top {
		return false
	}
	lie := 0
	for i := gen + 1; i <= top; i++ {
		lie++
	}
	if lie < p.Last {
		return true
	}
	for i := 0; p.Every > 0 && i <= gen; i += p.Every {
		if i == gen {
			return true
		}
	}
	return false
}

// 12.1

func TestRight(t *testing.T) {
	for _, last := range []int{1, 2, 3, 32, 65536, most - 1, most} {
		for _, every := range []int{0, 1, 2, 32, 65536, most - 1, most} {
			if p := (api.Policy{Last: last, Every: every}); !keep.Right(p) {
				t.Errorf("%v may not be", p)
			}
		}
	}
	for _, p := range wrong() {
		if keep.Right(p) {
			t.Errorf("%v may be", p)
		}
	}
}

func TestKeeps(t *testing.T) {
	for _, p := range few() {
		for top := -3; top < 26; top++ {
			for gen := -20; gen < 30; gen++ {
				if got, want := keep.Keeps(p, gen, top), plainKeeps(p, gen, top); got != want {
					t.Errorf("%v, top %d: %d: %v, want %v", p, top, gen, got, want)
				}
			}
		}
	}
}

// Numbers at the edges of what they may be, and far beyond.
func TestKeepsEdges(t *testing.T) {
	for _, c := range []struct {
		p        api.Policy
		gen, top int
		want     bool
	}{
		{api.Policy{Last: 1}, 0, 0, true},
		{api.Policy{Last: 1}, 0, 1, false},
		{api.Policy{Last: most}, 0, most - 1, true},
		{api.Policy{Last: most}, 0, most, false},
		{api.Policy{Last: most}, 1, most, true},
		{api.Policy{Last: most, Every: most}, 0, most, true},
		{api.Policy{Last: 1, Every: most}, most, 2 * most, true},
		{api.Policy{Last: 1, Every: most}, most - 1, 2 * most, false},
		{api.Policy{Last: 1, Every: most}, most + 1, 2 * most, false},
		{api.Policy{Last: 1, Every: most}, 0, math.MaxInt, true},
		{api.Policy{Last: 1, Every: 1}, math.MaxInt - 1, math.MaxInt, true},
		{api.Policy{Last: 1, Every: 2}, math.MaxInt - 1, math.MaxInt, true},
		{api.Policy{Last: 1, Every: 2}, math.MaxInt - 2, math.MaxInt, false},
		{api.Policy{Last: 1}, math.MaxInt, math.MaxInt, true},
		{api.Policy{Last: 3}, math.MaxInt - 2, math.MaxInt, true},
		{api.Policy{Last: 3}, math.MaxInt - 3, math.MaxInt, false},
		{api.Policy{Last: 3}, 0, math.MaxInt, false},
		// Below 0 and above the top none is kept, not even a multiple.
		{api.Policy{Last: most, Every: 1}, -1, 0, false},
		{api.Policy{Last: most, Every: 1}, 1, 0, false},
		{api.Policy{Last: most, Every: 1}, 0, -1, false},
		{api.Policy{Last: most, Every: 1}, -1, -1, false},
		{api.Policy{Last: most, Every: 1}, math.MinInt, math.MaxInt, false},
		{api.Policy{Last: most, Every: 1}, math.MaxInt, math.MinInt, false},
		{api.Policy{Last: most, Every: 1}, math.MinInt, math.MinInt, false},
		{api.Policy{Last: most, Every: 1}, math.MaxInt, math.MaxInt - 1, false},
	} {
		if got := keep.Keeps(c.p, c.gen, c.top); got != c.want {
			t.Errorf("%v, top %d: %d: %v, want %v", c.p, c.top, c.gen, got, c.want)
		}
	}
	for _, p := range wrong() {
		for _, top := range []int{math.MinInt, -1, 0, 1, 5, math.MaxInt} {
			for _, gen := range []int{math.MinInt, -1, 0, 1, 5, top, math.MaxInt} {
				if keep.Keeps(p, gen, top) {
					t.Errorf("%v keeps %d of top %d", p, gen, top)
				}
			}
		}
	}
}

func TestFloor(t *testing.T) {
	for _, p := range few() {
		for top := -3; top < 26; top++ {
			// Multiples are not among the last ones.
			last, want := api.Policy{Last: p.Last}, 0
			for gen := top; gen >= 0 && plainKeeps(last, gen, top); gen-- {
				want = gen
			}
			if got := keep.Floor(p, top); got != want {
				t.Errorf("%v, top %d: %d, want %d", p, top, got, want)
			}
		}
	}
	for _, c := range []struct {
		p         api.Policy
		top, want int
	}{
		{api.Policy{Last: 3}, 5, 3},
		{api.Policy{Last: 1, Every: 1}, 5, 5},
		{api.Policy{Last: most}, most - 2, 0},
		{api.Policy{Last: most}, most - 1, 0},
		{api.Policy{Last: most}, most, 1},
		{api.Policy{Last: most}, 2 * most, most + 1},
		{api.Policy{Last: 1}, math.MaxInt, math.MaxInt},
		{api.Policy{Last: 4, Every: 3}, math.MaxInt, math.MaxInt - 3},
		{api.Policy{Last: 1}, -1, 0},
		{api.Policy{Last: 1}, math.MinInt, 0},
		{api.Policy{Last: most, Every: most}, math.MinInt, 0},
	} {
		if got := keep.Floor(c.p, c.top); got != c.want {
			t.Errorf("%v, top %d: %d, want %d", c.p, c.top, got, c.want)
		}
	}
	for _, p := range wrong() {
		for _, top := range []int{math.MinInt, -1, 0, 5, most, 2 * most, math.MaxInt} {
			if got := keep.Floor(p, top); got != 0 {
				t.Errorf("%v, top %d: %d, want 0", p, top, got)
			}
		}
	}
}

func TestList(t *testing.T) {
	for _, p := range few() {
		for top := -1; top < 26; top++ {
			for floor := range top + 2 {
				var want []int
				for gen := floor; gen <= top; gen++ {
					if plainKeeps(p, gen, top) {
						want = append(want, gen)
					}
				}
				if got, e := keep.List(p, floor, top); !slices.Equal(got, want) || e != api.OK {
					t.Errorf("%v, %d to %d: %v, error %d, want %v", p, floor, top, got, e, want)
				}
			}
		}
	}
}

func TestListEdges(t *testing.T) {
	all := api.Policy{Last: most, Every: 1}
	for _, c := range []struct {
		floor, top, count int
	}{
		{0, 65534, 65535}, {0, 65535, 65536}, {1, 65536, 65536}, {most, most + 65535, 65536},
		{math.MaxInt - 65535, math.MaxInt, 65536}, {math.MaxInt - 1, math.MaxInt, 2}, {math.MaxInt, math.MaxInt, 1},
		{0, -1, 0}, {1, 0, 0}, {9, 8, 0}, {math.MaxInt, math.MaxInt - 1, 0},
	} {
		l, e := keep.List(all, c.floor, c.top)
		if len(l) != c.count || e != api.OK {
			t.Errorf("%d to %d: %d, error %d, want %d", c.floor, c.top, len(l), e, c.count)
			continue
		}
		for i, gen := range l {
			if gen != c.floor+i {
				t.Fatalf("%d to %d: %d in the place %d", c.floor, c.top, gen, i)
			}
		}
	}
	// As many as may be are gone through, though few of them are kept.
	if l, e := keep.List(api.Policy{Last: 2, Every: 20000}, 1, 65536); !slices.Equal(l, []int{20000, 40000, 60000, 65535, 65536}) || e != api.OK {
		t.Errorf("%v, error %d", l, e)
	}
	for _, c := range [][2]int{
		{0, 65536}, {1, 65537}, {0, most}, {0, math.MaxInt}, {1, math.MaxInt}, {math.MaxInt - 65536, math.MaxInt},
		{-1, -1}, {-1, -2}, {-1, 0}, {-1, 5}, {math.MinInt, 5}, {math.MinInt, math.MinInt}, {math.MinInt, math.MaxInt},
		{0, -2}, {1, -1}, {5, 3}, {9, 0}, {0, math.MinInt}, {1, math.MinInt}, {math.MaxInt, math.MaxInt - 2}, {math.MaxInt, 0}, {math.MaxInt, math.MinInt},
	} {
		if l, e := keep.List(all, c[0], c[1]); len(l) > 0 || e != api.ErrArg {
			t.Errorf("%d to %d: %d, error %d", c[0], c[1], len(l), e)
		}
	}
	for _, p := range wrong() {
		for _, c := range [][2]int{{0, 5}, {0, -1}, {3, 2}, {5, 3}} {
			if l, e := keep.List(p, c[0], c[1]); len(l) > 0 || e != api.ErrArg {
				t.Errorf("%v, %d to %d: %v, error %d", p, c[0], c[1], l, e)
			}
		}
	}
}

// What is told is new memory (R3).
func TestListNew(t *testing.T) {
	p := api.Policy{Last: 2, Every: 3}
	l, _ := keep.List(p, 0, 8)
	clear(l)
	if l, e := keep.List(p, 0, 8); !slices.Equal(l, []int{0, 3, 6, 7, 8}) || e != api.OK {
		t.Errorf("%v, error %d", l, e)
	}
}
