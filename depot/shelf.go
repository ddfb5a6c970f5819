package depot

import (
	"cmp"
	"maps"
	"slices"

	"coilrack/api"
	"coilrack/terms"
)

// CheckShelf says what is wrong with moves, and with which one.
func CheckShelf(l []api.Move) (int, api.Errno) {
	if len(l) > api.MaxMoves {
		return 0, api.ErrLarge
	}
	before := map[string]int{} // how many moves, by site
	for i, m := range l {
		switch {
		case !terms.IsKey(m.Site):
			return i, api.ErrName
		case i > 0 && byNumber(m, l[i-1]) <= 0:
			return i, api.ErrOrder
		case m.No != before[m.Site]+1 || !terms.Between(m.Day, 0, api.MaxDay):
			return i, api.ErrArg
		case !terms.IsKey(m.Ware):
			return i, api.ErrName
		case m.Many == 0 || !terms.Between(m.Many, -maxMove, maxMove):
			return i, api.ErrArg
		}
		before[m.Site]++
	}
	return 0, api.OK
}

// Shelf returns what is on a shelf.
func Shelf(l []api.Move) ([]api.Named, api.Errno) {
	if _, e := CheckShelf(l); e != api.OK {
		return nil, e
	}
	return sorted(sums(l)), api.OK
}

// Together puts two lists of moves together.
func Together(a, b []api.Move) ([]api.Move, api.Errno) {
	if _, e := CheckShelf(a); e != api.OK {
		return nil, e
	}
	if len(b) > api.MaxMoves {
		return nil, api.ErrLarge
	}
	all := slices.SortedFunc(slices.Values(slices.Concat(a, b)), byNumber)
	for i, m := range all {
		// Of several moves with the same number two that differ are next to each other somewhere.
		if i > 0 && byNumber(m, all[i-1]) == 0 && m != all[i-1] {
			return nil, api.ErrConflict
		}
	}
	all = slices.Compact(all)
	if _, e := CheckShelf(all); e != api.OK {
		return nil, e
	}
	return all, api.OK
}

// Thefts returns what is missing.
func Thefts(l []api.Move, counted []api.Named) ([]api.Named, api.Errno) {
	if _, e := CheckShelf(l); e != api.OK {
		return nil, e
	}
	if e := checkCounted(counted); e != api.OK {
		return nil, e
	}
	missing := sums(l)
	for _, x := range counted {
		missing[x.Key] -= x.Many
	}
	maps.DeleteFunc(missing, func(_ string, n int) bool { return n == 0 })
	return sorted(missing), api.OK
}

// checkCounted says what is wrong with what was counted.
func checkCounted(l []api.Named) api.Errno {
	if len(l) > api.MaxWares {
		return api.ErrLarge
	}
	for i, x := range l {
		switch {
		case !terms.IsKey(x.Key):
			return api.ErrName
		case i > 0 && x.Key <= l[i-1].Key:
			return api.ErrOrder
		case !terms.Between(x.Many, 0, maxCounted):
			return api.ErrArg
		}
	}
	return api.OK
}

// byNumber compares moves by site, and then by number.
func byNumber(a, b api.Move) int {
	return cmp.Or(cmp.Compare(a.Site, b.Site), cmp.Compare(a.No, b.No))
}

// sums returns the sum of Many of each ware.
func sums(l []api.Move) map[string]int {
	many := map[string]int{}
	for _, m := range l {
		many[m.Ware] += m.Many
	}
	return many
}

// sorted lists what is in a map by key.
func sorted(many map[string]int) []api.Named {
	var l []api.Named
	for _, key := range slices.Sorted(maps.Keys(many)) {
		l = append(l, api.Named{Key: key, Many: many[key]})
	}
	return l
}
