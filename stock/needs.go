package stock

import (
	"cmp"
	"maps"
	"slices"

	"coilrack/api"
	"coilrack/meter"
	"coilrack/terms"
)

// CheckNeeds says what is wrong with needs.
func CheckNeeds(l []api.Need) api.Errno {
	if len(l) > api.MaxNeeds {
		return api.ErrLarge
	}
	for i, n := range l {
		if !terms.IsKey(n.Place) || !terms.IsKey(n.Product) {
			return api.ErrName
		}
		if i > 0 && cmp.Or(cmp.Compare(n.Place, l[i-1].Place), cmp.Compare(n.Product, l[i-1].Product)) <= 0 {
			return api.ErrOrder
		}
		if !terms.Between(n.Many, 0, api.MaxUnits) {
			return api.ErrArg
		}
	}
	return api.OK
}

// Kit picks for all needs.
func Kit(l []api.Lot, needs []api.Need, day, left int) ([]api.Kit, []api.Lot, api.Errno) {
	if e := checkKit(l, needs, day, left); e != api.OK {
		return nil, nil, e
	}
	gets, e := portions(l, needs, day+left)
	if e != api.OK {
		return nil, nil, e
	}
	rest := slices.Clone(l)
	pick := picker(rest, day+left)
	kits := make([]api.Kit, len(needs))
	for i, n := range needs {
		kits[i] = api.Kit{Place: n.Place, Product: n.Product, Pieces: pick(n.Product, gets[i])}
	}
	return kits, rest, api.OK
}

// Short returns how many units are missing of each product.
func Short(l []api.Lot, needs []api.Need, day, left int) ([]api.Named, api.Errno) {
	if e := checkKit(l, needs, day, left); e != api.OK {
		return nil, e
	}
	asked := totals(needs)
	var short []api.Named
	for _, product := range slices.Sorted(maps.Keys(asked)) {
		if missing := asked[product] - units(l, product, day+left); missing > 0 {
			short = append(short, api.Named{Key: product, Many: missing})
		}
	}
	return short, api.OK
}

// checkKit says what is wrong with lots, needs, a day, and how many days must be left.
func checkKit(l []api.Lot, needs []api.Need, day, left int) api.Errno {
	if e := CheckLots(l); e != api.OK {
		return e
	}
	if e := CheckNeeds(needs); e != api.OK {
		return e
	}
	if !isDay(day) || !isDay(left) {
		return api.ErrArg
	}
	for _, many := range totals(needs) {
		if many > maxAsked {
			return api.ErrArg
		}
	}
	return api.OK
}

// totals returns how many units of each product all needs have together.
func totals(needs []api.Need) map[string]int {
	sums := map[string]int{}
	for _, n := range needs {
		sums[n.Product] += n.Many
	}
	return sums
}

// portions returns how many units each need gets of those that expire on a day or later.
func portions(l []api.Lot, needs []api.Need, day int) ([]int, api.Errno) {
	gets := make([]int, len(needs))
	asking := map[string][]int{} // by product: indices of needs
	for i, n := range needs {
		gets[i] = n.Many
		asking[n.Product] = append(asking[n.Product], i)
	}
	for product, asked := range totals(needs) {
		there := units(l, product, day)
		if there >= asked {
			continue
		}
		var weights []int
		for _, i := range asking[product] {
			weights = append(weights, needs[i].Many)
		}
		parts, e := meter.Share(there, weights)
		if e != api.OK {
			return nil, e
		}
		for k, i := range asking[product] {
			gets[i] = parts[k]
		}
	}
	return gets, api.OK
}
