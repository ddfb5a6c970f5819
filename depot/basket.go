package depot

import (
	"cmp"
	"slices"

	"coilrack/api"
	"coilrack/terms"
)

// CheckBasket says what is wrong with wares and a basket.
func CheckBasket(l []api.Ware, b []api.Named) api.Errno {
	if e := checkWares(l); e != api.OK {
		return e
	}
	if len(b) > maxBasket {
		return api.ErrLarge
	}
	wares := byKey(l)
	for i, x := range b {
		if _, ok := wares[x.Key]; !ok {
			return api.ErrNone
		}
		if i > 0 && x.Key <= b[i-1].Key {
			return api.ErrOrder
		}
		if !terms.Between(x.Many, 1, maxUnits) {
			return api.ErrArg
		}
	}
	return api.OK
}

// CheckDeals says what is wrong with wares and deals.
func CheckDeals(l []api.Ware, d []api.Deal) api.Errno {
	if e := checkWares(l); e != api.OK {
		return e
	}
	if len(d) > maxDeals {
		return api.ErrLarge
	}
	for i, x := range d {
		switch {
		case !terms.IsKey(x.Key) || !terms.IsKey(x.Group):
			return api.ErrName
		case i > 0 && x.Key <= d[i-1].Key:
			return api.ErrOrder
		case slices.ContainsFunc(d[:i], func(other api.Deal) bool { return other.Group == x.Group }):
			return api.ErrTwice
		case !terms.Between(x.Many, minSet, maxSet) || !terms.Between(x.Free, 1, x.Many-1):
			return api.ErrArg
		}
	}
	return api.OK
}

// Price returns what a basket costs.
func Price(l []api.Ware, d []api.Deal, b []api.Named) (int, []string, api.Errno) {
	if e := CheckDeals(l, d); e != api.OK {
		return 0, nil, e
	}
	if e := CheckBasket(l, b); e != api.OK {
		return 0, nil, e
	}
	wares := byKey(l)
	sum := 0
	prices := map[string][]int{} // of all units in the basket, by group
	for _, x := range b {
		ware := wares[x.Key]
		sum += x.Many * ware.Price
		prices[ware.Group] = append(prices[ware.Group], slices.Repeat([]int{ware.Price}, x.Many)...)
	}
	var made []string
	for _, x := range d {
		free := freeUnits(x, prices[x.Group])
		if len(free) > 0 {
			made = append(made, x.Key)
		}
		for _, price := range free {
			sum -= price
		}
	}
	return sum, made, api.OK
}

// checkWares says what is wrong with wares.
func checkWares(l []api.Ware) api.Errno {
	if len(l) > api.MaxWares {
		return api.ErrLarge
	}
	for i, x := range l {
		switch {
		case !terms.IsKey(x.Key) || !terms.IsKey(x.Group):
			return api.ErrName
		case i > 0 && x.Key <= l[i-1].Key:
			return api.ErrOrder
		case !terms.Between(x.Price, 0, maxPrice):
			return api.ErrArg
		}
	}
	return api.OK
}

func byKey(l []api.Ware) map[string]api.Ware {
	wares := map[string]api.Ware{}
	for _, x := range l {
		wares[x.Key] = x
	}
	return wares
}

// freeUnits returns the prices of the units of a group that cost nothing. Which ware a unit is of makes no difference among equal prices.
func freeUnits(d api.Deal, prices []int) []int {
	dearest := slices.SortedFunc(slices.Values(prices), func(a, b int) int { return cmp.Compare(b, a) })
	var free []int
	for set := range slices.Chunk(dearest, d.Many) {
		if len(set) == d.Many {
			free = append(free, set[d.Many-d.Free:]...)
		}
	}
	return free
}
