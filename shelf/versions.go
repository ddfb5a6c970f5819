package shelf

import (
	"slices"

	"coilrack/api"
	"coilrack/terms"
)

// CheckVersions says what is wrong with versions.
func CheckVersions(l []api.Version) api.Errno {
	if len(l) > maxVersions {
		return api.ErrLarge
	}
	for i, v := range l {
		switch {
		case !terms.Between(v.From, 0, api.MaxDay):
			return api.ErrArg
		case i > 0 && v.From <= l[i-1].From:
			return api.ErrOrder
		case len(v.Layout) > api.MaxRackSlots:
			return api.ErrLarge
		case len(v.Layout) != len(l[0].Layout):
			return api.ErrForm
		}
		if e := checkProducts(v.Layout); e != api.OK {
			return e
		}
	}
	return api.OK
}

// At returns the layout on a day.
func At(l []api.Version, day int) ([]string, api.Errno) {
	if e := CheckVersions(l); e != api.OK {
		return nil, e
	}
	if !terms.Between(day, 0, api.MaxDay) {
		return nil, api.ErrArg
	}
	for _, v := range slices.Backward(l) {
		if v.From <= day {
			return slices.Clone(v.Layout), api.OK
		}
	}
	return nil, api.ErrNone
}

// Stays returns how long each product is in each slot.
func Stays(l []api.Version, from, to int) ([]api.Stay, api.Errno) {
	if e := CheckVersions(l); e != api.OK {
		return nil, e
	}
	if !terms.Between(from, 0, to) || to > api.MaxDay+1 {
		return nil, api.ErrArg
	}
	if len(l) == 0 {
		return nil, api.OK
	}
	var stays []api.Stay
	for slot := range l[0].Layout {
		for i, v := range l {
			end := to
			if i+1 < len(l) {
				end = min(to, l[i+1].From)
			}
			stays = appendStay(stays, api.Stay{Slot: slot, Product: v.Layout[slot], From: max(from, v.From), To: end})
		}
	}
	return stays, api.OK
}

// appendStay adds a stay, if it has a product and days; one that goes on with the last one is joined with it.
func appendStay(l []api.Stay, s api.Stay) []api.Stay {
	if s.Product == "" || s.From >= s.To {
		return l
	}
	if n := len(l); n > 0 && l[n-1].Slot == s.Slot && l[n-1].Product == s.Product && l[n-1].To == s.From {
		l[n-1].To = s.To
		return l
	}
	return append(l, s)
}
