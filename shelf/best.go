package shelf

import (
	"maps"
	"slices"

	"coilrack/api"
	"coilrack/terms"
)

// choice is counts of some of the offers (those of the others are 0), and what they are worth.
type choice struct {
	ok     bool // false: there are no such counts
	worth  int
	counts [api.MaxOffers]int
}

// Best returns the counts with the greatest worth.
func Best(l []api.Offer, q []api.Quota, slots int) ([]int, int, api.Errno) {
	if e := CheckQuotas(l, q); e != api.OK {
		return nil, 0, e
	}
	if !terms.Between(slots, 0, api.MaxRackSlots) {
		return nil, 0, api.ErrArg
	}
	all := none(slots)
	groups := kept(l, q, slots)
	for _, group := range slices.Sorted(maps.Keys(groups)) {
		all = both(all, groups[group])
	}
	best := all[slots]
	if !best.ok {
		return nil, 0, api.ErrNone
	}
	return slices.Clone(best.counts[:len(l)]), best.worth, api.OK
}

// The lists of choices here have the best one for each number of slots, from 0 up to a greatest one.

// none is the choices without offers.
func none(slots int) []choice {
	list := make([]choice, slots+1)
	list[0].ok = true
	return list
}

// alone is the choices of one offer, the one with number i.
func alone(o api.Offer, i, slots int) []choice {
	list := none(slots)
	for n := 1; n <= min(len(o.Profits), slots); n++ {
		list[n] = choice{ok: true, worth: list[n-1].worth + o.Profits[n-1]}
		list[n].counts[i] = n
	}
	return list
}

// both is the choices of two sets of offers that have none in common.
// The lesser one of two lists stays the lesser one, whatever counts of other offers are added to both of them: so the best choice of all is made of best ones of its parts, also where several are worth as much.
func both(a, b []choice) []choice {
	list := make([]choice, len(a))
	for i, x := range a {
		for j, y := range b[:len(b)-i] {
			if sum := x.plus(y); sum.better(list[i+j]) {
				list[i+j] = sum
			}
		}
	}
	return list
}

// kept is the choices of each group that keep its quota.
func kept(l []api.Offer, q []api.Quota, slots int) map[string][]choice {
	groups := map[string][]choice{}
	add := func(group string, list []choice) {
		if old, ok := groups[group]; ok {
			list = both(old, list)
		}
		groups[group] = list
	}
	for i, o := range l {
		add(o.Group, alone(o, i, slots))
	}
	for _, x := range q {
		add(x.Group, none(slots)) // a quota may be of a group without offers
		for n := range groups[x.Group] {
			if !terms.Between(n, x.Least, x.Most) {
				groups[x.Group][n] = choice{}
			}
		}
	}
	return groups
}

// plus is two choices of different offers together.
func (c choice) plus(d choice) choice {
	if !c.ok || !d.ok {
		return choice{}
	}
	c.worth += d.worth
	for i, n := range d.counts {
		c.counts[i] += n
	}
	return c
}

// better reports whether c is worth more than d, or as much with a lesser list.
func (c choice) better(d choice) bool {
	switch {
	case !c.ok || !d.ok:
		return c.ok
	case c.worth != d.worth:
		return c.worth > d.worth
	}
	return slices.Compare(c.counts[:], d.counts[:]) < 0
}
