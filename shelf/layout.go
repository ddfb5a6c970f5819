package shelf

import (
	"slices"

	"coilrack/api"
	"coilrack/terms"
)

// CheckRack says what is wrong with a rack.
func CheckRack(r api.Rack) api.Errno {
	switch {
	case !terms.Between(r.Rows, 1, maxRow) || !terms.Between(r.Columns, 1, maxRow):
		return api.ErrArg
	case r.Rows*r.Columns > api.MaxRackSlots:
		return api.ErrLarge
	}
	return api.OK
}

// CheckLayout says what is wrong with a layout.
func CheckLayout(r api.Rack, l []api.Offer, x []string) api.Errno {
	if e := CheckRack(r); e != api.OK {
		return e
	}
	if e := CheckOffers(l); e != api.OK {
		return e
	}
	if len(x) != r.Rows*r.Columns {
		return api.ErrForm
	}
	return checkOffered(l, x)
}

// Clashes returns the slots that touch and must not.
func Clashes(r api.Rack, l []api.Offer, x []string) ([]api.Touch, api.Errno) {
	if e := CheckLayout(r, l, x); e != api.OK {
		return nil, e
	}
	clash := clashing(l)
	var found []api.Touch
	for _, t := range touches(r) {
		if clash(x[t.A], x[t.B]) {
			found = append(found, t)
		}
	}
	return found, api.OK
}

// Counts returns how many slots each offer has.
func Counts(l []api.Offer, x []string) ([]int, api.Errno) {
	if e := checkCounted(l, x); e != api.OK {
		return nil, e
	}
	counts := make([]int, len(l))
	offers := byKey(l)
	for _, product := range x {
		if i, ok := offers[product]; ok {
			counts[i]++
		}
	}
	return counts, api.OK
}

// Changed returns the slots at which layouts differ.
func Changed(a, b []string) ([]int, api.Errno) {
	if len(a) > api.MaxRackSlots {
		return nil, api.ErrLarge
	}
	if len(b) != len(a) {
		return nil, api.ErrForm
	}
	var slots []int
	for i := range a {
		if a[i] != b[i] {
			slots = append(slots, i)
		}
	}
	return slots, api.OK
}

// checkCounted says what is wrong with offers, and with a layout of any rack.
func checkCounted(l []api.Offer, x []string) api.Errno {
	if e := CheckOffers(l); e != api.OK {
		return e
	}
	if len(x) > api.MaxRackSlots {
		return api.ErrLarge
	}
	return checkOffered(l, x)
}

// checkOffered says whether a layout has something that is not offered.
func checkOffered(l []api.Offer, x []string) api.Errno {
	offers := byKey(l)
	for _, product := range x {
		if _, ok := offers[product]; !ok && product != "" {
			return api.ErrNone
		}
	}
	return api.OK
}

// checkProducts says whether a layout has something that is neither empty nor a key.
func checkProducts(x []string) api.Errno {
	for _, product := range x {
		if !isProduct(product) {
			return api.ErrName
		}
	}
	return api.OK
}

// isProduct reports whether s can be in a slot: it is empty or a key.
func isProduct(s string) bool { return s == "" || terms.IsKey(s) }

// byKey returns the numbers of offers by their Keys.
func byKey(l []api.Offer) map[string]int {
	offers := map[string]int{}
	for i, o := range l {
		offers[o.Key] = i
	}
	return offers
}

// touches returns the pairs of slots of a rack that touch, by A, then by B.
func touches(r api.Rack) []api.Touch {
	var l []api.Touch
	slots := r.Rows * r.Columns
	for a := range slots {
		if right := a + 1; right%r.Columns != 0 {
			l = append(l, api.Touch{A: a, B: right})
		}
		if below := a + r.Columns; below < slots {
			l = append(l, api.Touch{A: a, B: below})
		}
	}
	return l
}

// clashing returns a function that reports whether two products must not touch, each of them a Key of an offer or empty.
func clashing(l []api.Offer) func(a, b string) bool {
	pairs := map[[2]string]bool{}
	for _, a := range l {
		for _, b := range l {
			has := func(allergen string) bool { return slices.Contains(b.Has, allergen) }
			if slices.ContainsFunc(a.Hates, has) {
				pairs[[2]string{a.Key, b.Key}] = true
			}
		}
	}
	return func(a, b string) bool { return pairs[[2]string{a, b}] || pairs[[2]string{b, a}] }
}
