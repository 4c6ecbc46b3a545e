package keep_test

import (
	"math"
	"math/rand"
	"slices"
	"testing"
	"unsafe"

	"barque/api"
	"barque/keep"
)

// gen is a generation of a basis and so many bytes.
func gen(n, basis, bytes int) api.Gen {
	return api.Gen{Gen: n, Basis: basis, Bytes: bytes, Mark: string(rune('a' + n%26))}
}

// grown is a store of up to most generations, each whole or of an earlier one.
func grown(chance *rand.Rand, most int) (l []api.Gen) {
	n := chance.Intn(3)
	for range chance.Intn(most + 1) {
		basis := n
		if len(l) > 0 && chance.Intn(4) > 0 {
			basis = l[max(0, len(l)-1-chance.Intn(3))].Gen
		}
		l = append(l, gen(n, basis, chance.Intn(100)))
		n += 1 + chance.Intn(3)
	}
	return l
}

// chained are generations from 0 on, the first of which is whole, each other one of the one ahead.
func chained(n, bytes int) (l []api.Gen) {
	for i := range n {
		l = append(l, gen(i, max(0, i-1), bytes))
	}
	return l
}

// byNumber are a store's generations by their numbers.
func byNumber(l []api.Gen) map[int]api.Gen {
	by := map[int]api.Gen{}
	for _, x := range l {
		by[x.Gen] = x
	}
	return by
}

// plainRoad is the road to a generation that is there, as the document tells it.
func plainRoad(by map[int]api.Gen, n int) []int {
	if by[n].Basis == n {
		return []int{n}
	}
	return append(plainRoad(by, by[n].Basis), n)
}

// faulty are lists that may not be, with what is wrong with them.
func faulty() map[string]struct {
	l []api.Gen
	e api.Errno
} {
	type fault = struct {
		l []api.Gen
		e api.Errno
	}
	whole := gen(5, 5, 7)
	return map[string]fault{
		"below 0":                       {[]api.Gen{gen(0, 0, 1), {Gen: -1, Basis: -1}}, api.ErrRange},
		"far below 0":                   {[]api.Gen{{Gen: math.MinInt, Basis: math.MinInt}}, api.ErrRange},
		"bytes below 0":                 {[]api.Gen{whole, gen(6, 5, -1)}, api.ErrRange},
		"bytes far below 0":             {[]api.Gen{gen(0, 0, math.MinInt)}, api.ErrRange},
		"too many bytes":                {[]api.Gen{whole, gen(6, 6, api.MaxSource+1)}, api.ErrRange},
		"far too many bytes":            {[]api.Gen{gen(0, 0, math.MaxInt)}, api.ErrRange},
		"twice":                         {[]api.Gen{whole, whole}, api.ErrOrder},
		"twice, not one behind another": {[]api.Gen{whole, gen(6, 6, 0), whole}, api.ErrOrder},
		"fall":                          {[]api.Gen{whole, gen(4, 4, 0)}, api.ErrOrder},
		"fall at the end":               {[]api.Gen{gen(0, 0, 0), whole, gen(6, 5, 0), gen(1, 0, 0)}, api.ErrOrder},
		"basis that is not there":       {[]api.Gen{whole, gen(7, 6, 0)}, api.ErrBasis},
		"first of none":                 {[]api.Gen{gen(1, 0, 0)}, api.ErrBasis},
		"first of a later one":          {[]api.Gen{gen(1, 5, 0), whole}, api.ErrBasis},
		"of a later one":                {[]api.Gen{whole, gen(6, 7, 0), gen(7, 7, 0)}, api.ErrBasis},
		"of one another":                {[]api.Gen{gen(1, 2, 0), gen(2, 1, 0)}, api.ErrBasis},
		"basis below 0":                 {[]api.Gen{whole, gen(6, -1, 0)}, api.ErrBasis},
		"basis far below 0":             {[]api.Gen{whole, gen(6, math.MinInt, 0)}, api.ErrBasis},
		"basis far above":               {[]api.Gen{whole, gen(6, math.MaxInt, 0)}, api.ErrBasis},
		"too many":                      {chained(4097, 1), api.ErrLong},
		"far too many":                  {chained(70000, 1), api.ErrLong},
		// Of one generation the range is told first, the basis last.
		"range, order and basis": {[]api.Gen{whole, {Gen: 4, Basis: 3, Bytes: -1}}, api.ErrRange},
		"range and order":        {[]api.Gen{gen(0, 0, 0), {Gen: -1, Basis: -1, Bytes: 0}}, api.ErrRange},
		"range and basis":        {[]api.Gen{{Gen: 4, Basis: 3, Bytes: api.MaxSource + 1}}, api.ErrRange},
		"order and basis":        {[]api.Gen{whole, gen(4, 3, 0)}, api.ErrOrder},
		// Of two the first one is told.
		"basis, then range": {[]api.Gen{gen(1, 0, 0), gen(2, 2, -1)}, api.ErrBasis},
		"basis, then order": {[]api.Gen{gen(1, 0, 0), gen(1, 1, 0)}, api.ErrBasis},
		"order, then range": {[]api.Gen{whole, whole, gen(6, 6, -1)}, api.ErrOrder},
		"order, then basis": {[]api.Gen{whole, whole, gen(7, 6, 0)}, api.ErrOrder},
		"range, then order": {[]api.Gen{gen(5, 5, -1), whole}, api.ErrRange},
		"range, then basis": {[]api.Gen{gen(5, 5, -1), gen(7, 6, 0)}, api.ErrRange},
		// That there are too many is told ahead of all.
		"too many, and all else": {slices.Concat([]api.Gen{gen(5, 3, -1), gen(4, 3, 0)}, chained(4095, 1)), api.ErrLong},
	}
}

// subsets are all sets of numbers, those of one set in any order, some of them twice.
func subsets(chance *rand.Rand, l []api.Gen) (all [][]int) {
	for bits := range 1 << len(l) {
		var set []int
		for i, x := range l {
			for range bits >> i & 1 * (1 + chance.Intn(2)) {
				set = append(set, x.Gen)
			}
		}
		chance.Shuffle(len(set), func(i, j int) { set[i], set[j] = set[j], set[i] })
		all = append(all, set)
	}
	return all
}

// plainNeed is Need of generations that are there, as the document tells it.
func plainNeed(l []api.Gen, wanted []int) (need []int) {
	for _, x := range l {
		if slices.Contains(wanted, x.Gen) && !slices.Contains(wanted, x.Basis) {
			need = append(need, x.Gen)
		}
	}
	return need
}

// 12.2

func TestCheck(t *testing.T) {
	chance := rand.New(rand.NewSource(12))
	for name, l := range map[string][]api.Gen{
		"nil":                   nil,
		"none":                  {},
		"one":                   {gen(0, 0, 0)},
		"one, not the first":    {gen(7, 7, 7)},
		"greatest":              {gen(math.MaxInt-1, math.MaxInt-1, 0), gen(math.MaxInt, math.MaxInt-1, 0)},
		"bytes":                 {gen(0, 0, 0), gen(1, 1, api.MaxSource), gen(2, 1, api.MaxSource-1), gen(3, 0, 0)},
		"all of the first":      {gen(3, 3, 1), gen(4, 3, 1), gen(9, 3, 1), gen(11, 3, 1)},
		"whole ones between":    {gen(0, 0, 1), gen(1, 1, 1), gen(2, 0, 1), gen(3, 1, 1), gen(4, 4, 1)},
		"as many as may be":     chained(4096, api.MaxSource),
		"one less":              chained(4095, 0),
		"any":                   grown(chance, 40),
		"any mark is passed by": {{Gen: 1, Basis: 1, Mark: "\x00"}, {Gen: 2, Basis: 1}},
	} {
		if e := keep.Check(l); e != api.OK {
			t.Errorf("%s: error %d", name, e)
		}
	}
	for name, c := range faulty() {
		if e := keep.Check(c.l); e != c.e {
			t.Errorf("%s: error %d, want %d", name, e, c.e)
		}
	}
}

// What Check refuses all others refuse, with its error ahead of their own.
func TestFaulty(t *testing.T) {
	for name, c := range faulty() {
		for _, n := range []int{c.l[0].Gen, -7} {
			if l, e := keep.Road(c.l, n); len(l) > 0 || e != c.e {
				t.Errorf("%s: Road: %v, error %d, want %d", name, l, e, c.e)
			}
			if bytes, e := keep.Cost(c.l, n); bytes != 0 || e != c.e {
				t.Errorf("%s: Cost: %d, error %d, want %d", name, bytes, e, c.e)
			}
			if l, e := keep.Need(c.l, []int{n}); len(l) > 0 || e != c.e {
				t.Errorf("%s: Need: %v, error %d, want %d", name, l, e, c.e)
			}
			if l, e := keep.After(c.l, []int{n}, []int{1, 2, 3}); len(l) > 0 || e != c.e {
				t.Errorf("%s: After: %v, error %d, want %d", name, l, e, c.e)
			}
		}
		if n, e := keep.Deepest(c.l); n != 0 || e != c.e {
			t.Errorf("%s: Deepest: %d, error %d, want %d", name, n, e, c.e)
		}
		if l, e := keep.Need(c.l, nil); len(l) > 0 || e != c.e {
			t.Errorf("%s: Need of none: %v, error %d, want %d", name, l, e, c.e)
		}
	}
}

func TestRoad(t *testing.T) {
	l := []api.Gen{gen(0, 0, 1), gen(1, 0, 10), gen(2, 1, 100), gen(4, 4, 1000), gen(5, 2, 10000), gen(6, 4, 0), gen(9, 0, 100000)}
	for n, want := range map[int][]int{0: {0}, 1: {0, 1}, 2: {0, 1, 2}, 4: {4}, 5: {0, 1, 2, 5}, 6: {4, 6}, 9: {0, 9}} {
		if road, e := keep.Road(l, n); !slices.Equal(road, want) || e != api.OK {
			t.Errorf("to %d: %v, error %d, want %v", n, road, e, want)
		}
	}
	for n, want := range map[int]int{0: 1, 1: 11, 2: 111, 4: 1000, 5: 10111, 6: 1000, 9: 100001} {
		if bytes, e := keep.Cost(l, n); bytes != want || e != api.OK {
			t.Errorf("of %d: %d, error %d, want %d", n, bytes, e, want)
		}
	}
	if n, e := keep.Deepest(l); n != 4 || e != api.OK {
		t.Errorf("deepest: %d, error %d", n, e)
	}
	for _, n := range []int{-1, 3, 7, 8, 10, math.MinInt, math.MaxInt} {
		if road, e := keep.Road(l, n); len(road) > 0 || e != api.ErrNone {
			t.Errorf("to %d: %v, error %d", n, road, e)
		}
		if bytes, e := keep.Cost(l, n); bytes != 0 || e != api.ErrNone {
			t.Errorf("of %d: %d, error %d", n, bytes, e)
		}
	}
	for _, none := range [][]api.Gen{nil, {}} {
		if road, e := keep.Road(none, 0); len(road) > 0 || e != api.ErrNone {
			t.Errorf("of none: %v, error %d", road, e)
		}
		if bytes, e := keep.Cost(none, 0); bytes != 0 || e != api.ErrNone {
			t.Errorf("of none: %d, error %d", bytes, e)
		}
		if n, e := keep.Deepest(none); n != 0 || e != api.OK {
			t.Errorf("of none: %d, error %d", n, e)
		}
	}
}

// Roads, what they cost and how long the longest is, of any stores.
func TestRoadAny(t *testing.T) {
	chance := rand.New(rand.NewSource(122))
	for range 1000 {
		l := grown(chance, 30)
		by, longest := byNumber(l), 0
		for _, x := range l {
			want, bytes := plainRoad(by, x.Gen), 0
			for _, n := range want {
				bytes += by[n].Bytes
			}
			longest = max(longest, len(want))
			if road, e := keep.Road(l, x.Gen); !slices.Equal(road, want) || e != api.OK {
				t.Fatalf("%v: to %d: %v, error %d, want %v", l, x.Gen, road, e, want)
			}
			if n, e := keep.Cost(l, x.Gen); n != bytes || e != api.OK {
				t.Fatalf("%v: of %d: %d, error %d, want %d", l, x.Gen, n, e, bytes)
			}
		}
		if n, e := keep.Deepest(l); n != longest || e != api.OK {
			t.Fatalf("%v: deepest %d, error %d, want %d", l, n, e, longest)
		}
	}
}

// The longest road that may be.
func TestRoadLong(t *testing.T) {
	l := chained(4096, api.MaxSource)
	road, e := keep.Road(l, 4095)
	if len(road) != 4096 || e != api.OK {
		t.Fatalf("%d, error %d", len(road), e)
	}
	for i, n := range road {
		if n != i {
			t.Fatalf("%d in the place %d", n, i)
		}
	}
	if bytes, e := keep.Cost(l, 4095); bytes != 4096*api.MaxSource || e != api.OK {
		t.Errorf("%d bytes, error %d", bytes, e)
	}
	if n, e := keep.Deepest(l); n != 4096 || e != api.OK {
		t.Errorf("deepest %d, error %d", n, e)
	}
}

// 12.3

func TestNeed(t *testing.T) {
	l := []api.Gen{gen(0, 0, 1), gen(1, 0, 2), gen(2, 1, 3), gen(4, 4, 4), gen(5, 2, 5), gen(6, 2, 6)}
	for _, c := range []struct {
		wanted, need []int
	}{
		{nil, nil},
		{[]int{}, nil},
		{[]int{0, 1, 2, 4, 5, 6}, nil},
		{[]int{0}, nil},
		{[]int{4, 0}, nil},
		{[]int{1, 2}, []int{1}},
		{[]int{2, 1}, []int{1}},
		{[]int{2}, []int{2}},
		{[]int{0, 2}, []int{2}},
		{[]int{6, 5}, []int{5, 6}},
		{[]int{6, 4, 1, 5}, []int{1, 5, 6}},
		{[]int{5, 5, 4, 4, 5}, []int{5}},
	} {
		if need, e := keep.Need(l, c.wanted); !slices.Equal(need, c.need) || e != api.OK {
			t.Errorf("%v: %v, error %d, want %v", c.wanted, need, e, c.need)
		}
	}
	for _, wanted := range [][]int{{-1}, {3}, {7}, {0, 3}, {3, 0}, {0, 1, 2, 4, 5, 6, 7}, {math.MinInt}, {math.MaxInt}, {5, math.MaxInt}} {
		if need, e := keep.Need(l, wanted); len(need) > 0 || e != api.ErrNone {
			t.Errorf("%v: %v, error %d", wanted, need, e)
		}
		for _, whole := range [][]int{nil, {1}, {1, 2}, {1, 2, 3}} {
			if left, e := keep.After(l, wanted, whole); len(left) > 0 || e != api.ErrNone {
				t.Errorf("%v, %v: %v, error %d", wanted, whole, left, e)
			}
		}
	}
	for _, none := range [][]api.Gen{nil, {}} {
		if need, e := keep.Need(none, nil); len(need) > 0 || e != api.OK {
			t.Errorf("of none: %v, error %d", need, e)
		}
		if need, e := keep.Need(none, []int{0}); len(need) > 0 || e != api.ErrNone {
			t.Errorf("0 of none: %v, error %d", need, e)
		}
	}
}

func TestAfter(t *testing.T) {
	l := []api.Gen{
		{Gen: 0, Basis: 0, Bytes: 1, Mark: "m"}, {Gen: 1, Basis: 0, Bytes: 2, Mark: "n"}, {Gen: 2, Basis: 1, Bytes: 3, Mark: "m"},
		{Gen: 4, Basis: 4, Bytes: 4}, {Gen: 5, Basis: 2, Bytes: 5, Mark: "p"}, {Gen: 6, Basis: 2, Bytes: 6, Mark: "q"},
	}
	for _, c := range []struct {
		wanted, whole []int
		left          []api.Gen
	}{
		{nil, nil, nil},
		{[]int{}, []int{}, nil},
		{[]int{0, 1, 2, 4, 5, 6}, nil, l},
		{[]int{6, 2, 0, 4, 5, 1, 6, 0}, nil, l},
		{[]int{4, 0}, nil, []api.Gen{l[0], l[3]}},
		{[]int{2, 1}, []int{9}, []api.Gen{{Gen: 1, Basis: 1, Bytes: 9, Mark: "n"}, l[2]}},
		{[]int{6, 4, 5, 2}, []int{0}, []api.Gen{{Gen: 2, Basis: 2, Bytes: 0, Mark: "m"}, l[3], l[4], l[5]}},
		// The numbers stand as those that are needed: rising, whatever the order of those that are wanted.
		{[]int{6, 1, 5, 4}, []int{10, 11, 12}, []api.Gen{{Gen: 1, Basis: 1, Bytes: 10, Mark: "n"}, l[3], {Gen: 5, Basis: 5, Bytes: 11, Mark: "p"}, {Gen: 6, Basis: 6, Bytes: 12, Mark: "q"}}},
		{[]int{2, 2}, []int{api.MaxSource}, []api.Gen{{Gen: 2, Basis: 2, Bytes: api.MaxSource, Mark: "m"}}},
		// Of numbers that may not be none is refused.
		{[]int{5, 6}, []int{-1, api.MaxSource + 1}, []api.Gen{{Gen: 5, Basis: 5, Bytes: -1, Mark: "p"}, {Gen: 6, Basis: 6, Bytes: api.MaxSource + 1, Mark: "q"}}},
	} {
		if left, e := keep.After(l, c.wanted, c.whole); !slices.Equal(left, c.left) || e != api.OK {
			t.Errorf("%v, %v: %v, error %d, want %v", c.wanted, c.whole, left, e, c.left)
		}
		for _, whole := range [][]int{append(slices.Clone(c.whole), 1), make([]int, len(c.whole)+5000), c.whole[:max(0, len(c.whole)-1)]} {
			if len(whole) == len(c.whole) {
				continue
			}
			if left, e := keep.After(l, c.wanted, whole); len(left) > 0 || e != api.ErrArg {
				t.Errorf("%v, %d numbers: %v, error %d", c.wanted, len(whole), left, e)
			}
		}
	}
	if left, e := keep.After(nil, nil, nil); len(left) > 0 || e != api.OK {
		t.Errorf("of none: %v, error %d", left, e)
	}
	if left, e := keep.After(nil, nil, []int{1}); len(left) > 0 || e != api.ErrArg {
		t.Errorf("of none, a number: %v, error %d", left, e)
	}
}

// 12.3, 12.4: of any stores, whatever is wanted of them.
func TestAfterAny(t *testing.T) {
	chance := rand.New(rand.NewSource(123))
	for range 200 {
		l := grown(chance, 8)
		by := byNumber(l)
		for _, wanted := range subsets(chance, l) {
			need, e := keep.Need(l, wanted)
			if want := plainNeed(l, wanted); !slices.Equal(need, want) || e != api.OK {
				t.Fatalf("%v: Need of %v: %v, error %d, want %v", l, wanted, need, e, want)
			}
			var whole []int
			for range need {
				whole = append(whole, chance.Intn(api.MaxSource+1))
			}
			left, e := keep.After(l, wanted, whole)
			if e != api.OK {
				t.Fatalf("%v: After of %v: error %d", l, wanted, e)
			}
			asAsked(t, by, wanted, need, whole, left)
			reached(t, left)
		}
	}
}

// asAsked asks whether just those that are wanted are left, rising, those that were needed whole.
func asAsked(t *testing.T, by map[int]api.Gen, wanted, need, whole []int, left []api.Gen) {
	t.Helper()
	var want []api.Gen
	for _, n := range slices.Compact(slices.Sorted(slices.Values(wanted))) {
		x := by[n]
		if at := slices.Index(need, n); at >= 0 {
			x.Basis, x.Bytes = n, whole[at]
		}
		want = append(want, x)
	}
	if !slices.Equal(left, want) {
		t.Fatalf("After of %v, %v: %v, want %v", wanted, whole, left, want)
	}
}

// reached asks whether generations may be, and the roads to all of them are there.
func reached(t *testing.T, l []api.Gen) {
	t.Helper()
	if e := keep.Check(l); e != api.OK {
		t.Fatalf("%v: error %d", l, e)
	}
	by := byNumber(l)
	for _, x := range l {
		if road, e := keep.Road(l, x.Gen); !slices.Equal(road, plainRoad(by, x.Gen)) || e != api.OK {
			t.Fatalf("%v: to %d: %v, error %d", l, x.Gen, road, e)
		}
		for _, n := range plainRoad(by, x.Gen) {
			if _, ok := by[n]; !ok {
				t.Fatalf("%v: on the road to %d: %d is not there", l, x.Gen, n)
			}
		}
	}
	if need, e := keep.Need(l, numbers(l)); len(need) > 0 || e != api.OK {
		t.Fatalf("%v: Need of all: %v, error %d", l, need, e)
	}
}

// numbers are generations' numbers.
func numbers(l []api.Gen) (all []int) {
	for _, x := range l {
		all = append(all, x.Gen)
	}
	return all
}

// 12.4: the greatest store that may be, and what a policy keeps of it.
func TestAfterMost(t *testing.T) {
	l := chained(4096, api.MaxSource)
	wanted, e := keep.List(api.Policy{Last: 32, Every: 100}, 0, 4095)
	if len(wanted) != 73 || e != api.OK {
		t.Fatalf("%d, error %d", len(wanted), e)
	}
	need, e := keep.Need(l, wanted)
	if !slices.Equal(need, plainNeed(l, wanted)) || len(need) != 41 || e != api.OK {
		t.Fatalf("%v, error %d", need, e)
	}
	left, e := keep.After(l, wanted, make([]int, len(need)))
	if e != api.OK {
		t.Fatalf("error %d", e)
	}
	asAsked(t, byNumber(l), wanted, need, make([]int, len(need)), left)
	reached(t, left)
	if n, e := keep.Deepest(left); n != 32 || e != api.OK {
		t.Errorf("deepest %d, error %d", n, e)
	}
}

// What is handed in stays as it is, behind the lists' ends too, and is not kept (R3).
func TestHandedIn(t *testing.T) {
	memory := []byte("0123456789")
	room := []api.Gen{gen(0, 0, 1), gen(1, 0, 2), {Gen: 2, Basis: 1, Bytes: 3, Mark: unsafe.String(&memory[0], 4)}, {Gen: 3, Basis: 2, Bytes: 4, Mark: unsafe.String(&memory[4], 4)}, {Mark: "behind"}}
	wanted, whole := []int{3, 2, 2, 0, 77}, []int{9, 78, 79}
	before := [3]any{slices.Clone(room), slices.Clone(wanted), slices.Clone(whole)}
	l := room[:4]
	road, _ := keep.Road(l, 3)
	keep.Cost(l, 3)
	keep.Deepest(l)
	keep.Check(l)
	need, _ := keep.Need(l, wanted[:4])
	left, e := keep.After(l, wanted[:4], whole[:1])
	if e != api.OK {
		t.Fatalf("error %d", e)
	}
	if !slices.Equal(room, before[0].([]api.Gen)) || !slices.Equal(wanted, before[1].([]int)) || !slices.Equal(whole, before[2].([]int)) {
		t.Errorf("%v, %v, %v, want %v", room, wanted, whole, before)
	}
	copy(memory, "##########")
	clear(wanted)
	clear(whole)
	clear(room)
	if want := []api.Gen{gen(0, 0, 1), {Gen: 2, Basis: 2, Bytes: 9, Mark: "0123"}, {Gen: 3, Basis: 2, Bytes: 4, Mark: "4567"}}; !slices.Equal(left, want) {
		t.Errorf("left is %v, want %v", left, want)
	}
	if !slices.Equal(road, []int{0, 1, 2, 3}) || !slices.Equal(need, []int{2}) {
		t.Errorf("the road %v, needed %v", road, need)
	}
}
