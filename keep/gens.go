package keep

import (
	"cmp"
	"slices"
	"strings"

	"barque/api"
)

// mostGens is how many generations a store may have.
const mostGens = 4096

// Check tells what is wrong with a store's generations: they rise, each hangs on itself or an earlier one that is there.
func Check(l []api.Gen) api.Errno {
	_, e := depths(l)
	return e
}

// depths is how deep each generation lies: how many its road has. None that is there has 0.
func depths(l []api.Gen) (map[int]int, api.Errno) {
	if len(l) > mostGens {
		return nil, api.ErrLong
	}
	deep := map[int]int{}
	for i, x := range l {
		if x.Gen < 0 || !within(x.Bytes, 0, api.MaxSource) {
			return nil, api.ErrRange
		}
		if i > 0 && x.Gen <= l[i-1].Gen {
			return nil, api.ErrOrder
		}
		if x.Basis != x.Gen && deep[x.Basis] == 0 {
			return nil, api.ErrBasis
		}
		// The basis of a whole one is itself, which is not in the map yet: 0 and 1.
		deep[x.Gen] = deep[x.Basis] + 1
	}
	return deep, api.OK
}

// Deepest is how many generations the longest road has.
func Deepest(l []api.Gen) (int, api.Errno) {
	deep, e := depths(l)
	if e != api.OK {
		return 0, e
	}
	longest := 0
	for _, n := range deep {
		longest = max(longest, n)
	}
	return longest, api.OK
}

// Road are the generations that one is made of, from the whole one on.
func Road(l []api.Gen, gen int) ([]int, api.Errno) {
	way, e := along(l, gen)
	if e != api.OK {
		return nil, e
	}
	var road []int
	for _, x := range way {
		road = append(road, x.Gen)
	}
	return road, api.OK
}

// Cost is how many bytes are read for a generation.
func Cost(l []api.Gen, gen int) (int, api.Errno) {
	way, e := along(l, gen)
	if e != api.OK {
		return 0, e
	}
	bytes := 0
	for _, x := range way {
		bytes += x.Bytes
	}
	return bytes, api.OK
}

// along is what stands along the road to a generation.
func along(l []api.Gen, gen int) ([]api.Gen, api.Errno) {
	if e := Check(l); e != api.OK {
		return nil, e
	}
	var way []api.Gen
	// One pass from the end on finds all, as each basis stands ahead of what hangs on it.
	for _, x := range slices.Backward(l) {
		if x.Gen == gen {
			way = append(way, x)
			gen = x.Basis
		}
	}
	if len(way) == 0 {
		return nil, api.ErrNone
	}
	slices.Reverse(way)
	return way, api.OK
}

// Need are the generations that must be made whole ahead of all going that are not wanted: those wanted whose basis is not.
func Need(l []api.Gen, wanted []int) ([]int, api.Errno) {
	stay, e := staying(l, wanted)
	if e != api.OK {
		return nil, e
	}
	var need []int
	for _, at := range needing(stay) {
		need = append(need, stay[at].Gen)
	}
	return need, api.OK
}

// After is a store's generations when those that need it are whole (of the sizes that are told), and all others that are not wanted are gone.
func After(l []api.Gen, wanted []int, whole []int) ([]api.Gen, api.Errno) {
	stay, e := staying(l, wanted)
	if e != api.OK {
		return nil, e
	}
	places := needing(stay)
	if len(whole) != len(places) {
		return nil, api.ErrArg
	}
	for i, at := range places {
		stay[at].Basis, stay[at].Bytes = stay[at].Gen, whole[i]
	}
	for i, x := range stay {
		stay[i].Mark = strings.Clone(x.Mark)
	}
	return stay, api.OK
}

// staying are the generations that are wanted, rising, as they are.
func staying(l []api.Gen, wanted []int) ([]api.Gen, api.Errno) {
	deep, e := depths(l)
	if e != api.OK {
		return nil, e
	}
	asked := map[int]struct{}{}
	for _, gen := range wanted {
		if deep[gen] == 0 {
			return nil, api.ErrNone
		}
		asked[gen] = struct{}{}
	}
	var stay []api.Gen
	for _, x := range l {
		if _, ok := asked[x.Gen]; ok {
			stay = append(stay, x)
		}
	}
	return stay, api.OK
}

// needing are the places of those generations that must be made whole: whose basis is not among them.
func needing(l []api.Gen) []int {
	var places []int
	for i, x := range l {
		if _, ok := slices.BinarySearchFunc(l, x.Basis, against); !ok {
			places = append(places, i)
		}
	}
	return places
}

// against holds a generation against a number.
func against(x api.Gen, gen int) int { return cmp.Compare(x.Gen, gen) }
