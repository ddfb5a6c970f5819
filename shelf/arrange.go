package shelf

import (
	"slices"

	"coilrack/api"
)

// Arrange changes a layout as little as possible.
func Arrange(l []api.Offer, x []string, counts []int) ([]string, api.Errno) {
	if e := checkCounted(l, x); e != api.OK {
		return nil, e
	}
	if e := checkRoom(l, len(x), counts); e != api.OK {
		return nil, e
	}
	lack := slices.Clone(counts)
	y := make([]string, len(x))
	offers := byKey(l)
	var lost, empty []int // slots
	for slot, product := range x {
		i, ok := offers[product]
		switch {
		case !ok:
			empty = append(empty, slot)
		case lack[i] == 0:
			lost = append(lost, slot)
		default:
			y[slot] = product
			lack[i]--
		}
	}
	free := slices.Concat(lost, empty)
	for i, o := range l { // by Key
		for _, slot := range free[:lack[i]] {
			y[slot] = o.Key
		}
		free = free[lack[i]:]
	}
	return y, api.OK
}

// Place returns the layout without clashes that differs least.
func Place(r api.Rack, l []api.Offer, x []string, counts []int) ([]string, int, api.Errno) {
	if e := CheckLayout(r, l, x); e != api.OK {
		return nil, 0, e
	}
	if len(x) > api.MaxPlace {
		return nil, 0, api.ErrLarge
	}
	if e := checkRoom(l, len(x), counts); e != api.OK {
		return nil, 0, e
	}
	goods := []api.Named{{Many: len(x) - total(counts)}} // the empty slots
	for i, o := range l {
		goods = append(goods, api.Named{Key: o.Key, Many: counts[i]})
	}
	y, n := closest(x, goods, agreeing(r, l))
	if y == nil {
		return nil, 0, api.ErrNone
	}
	return y, n, api.OK
}

// checkRoom says what is wrong with counts of offers, for which there are so many slots.
func checkRoom(l []api.Offer, slots int, counts []int) api.Errno {
	if e := checkCounts(l, counts); e != api.OK {
		return e
	}
	if total(counts) > slots {
		return api.ErrFull
	}
	return api.OK
}

// agreeing returns a function that reports whether the last one of the first products of a layout clashes with none before it.
func agreeing(r api.Rack, l []api.Offer) func(y []string) bool {
	clash := clashing(l)
	before := make([][]int, r.Rows*r.Columns) // for each slot: those before it that touch it
	for _, t := range touches(r) {
		before[t.B] = append(before[t.B], t.A)
	}
	return func(y []string) bool {
		last := len(y) - 1
		return !slices.ContainsFunc(before[last], func(slot int) bool { return clash(y[slot], y[last]) })
	}
}

// closest returns the list of all goods, given by Key, that differs from x in the fewest places, the least one of several, and in how many; nil if there is none whose beginnings all agree.
func closest(x []string, goods []api.Named, agree func(y []string) bool) ([]string, int) {
	left := slices.Clone(goods)
	fewest := len(x) + 1
	var best, y []string
	var fill func(changes int)
	fill = func(changes int) {
		if changes >= fewest {
			return
		}
		at := len(y)
		if at == len(x) {
			// The lists are met from the least one on: of several the first one stays.
			best, fewest = slices.Clone(y), changes
			return
		}
		for i, g := range goods {
			if left[i].Many == 0 {
				continue
			}
			left[i].Many--
			y = append(y, g.Key)
			if agree(y) {
				fill(changes + difference(g.Key, x[at]))
			}
			y = y[:at]
			left[i].Many++
		}
	}
	fill(0)
	return best, fewest
}

// difference is 1 if two products differ, otherwise 0.
func difference(a, b string) int {
	if a != b {
		return 1
	}
	return 0
}
