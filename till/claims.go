package till

import (
	"slices"

	"coilrack/api"
	"coilrack/terms"
)

// trusted is how many claims a customer can have had before, and still is paid without a fault.
const trusted = 1

// CheckClaim says what is wrong with a claim.
func CheckClaim(c api.Claim) api.Errno {
	if !terms.IsMoment(c.At) || !terms.Between(c.Lost, 1, maxClaim) || !terms.Between(c.Past, 0, maxPast) {
		return api.ErrArg
	}
	return api.OK
}

// Refund returns what is paid back.
func Refund(c api.Claim, faults []api.Window, price, most int) (int, api.Errno) {
	if e := CheckClaim(c); e != api.OK {
		return 0, e
	}
	if e := checkFaults(faults); e != api.OK {
		return 0, e
	}
	if !terms.Between(price, 0, maxClaim) || !terms.Between(most, 0, maxClaim) {
		return 0, api.ErrArg
	}
	switch {
	case slices.ContainsFunc(faults, func(w api.Window) bool { return w.From <= c.At && c.At < w.To }):
		return min(c.Lost, most), api.OK
	case c.Past <= trusted:
		return min(c.Lost, price, most), api.OK
	}
	return 0, api.OK
}

func checkFaults(l []api.Window) api.Errno {
	if len(l) > maxFaults {
		return api.ErrLarge
	}
	for _, w := range l {
		if !terms.Between(w.From, 0, w.To) || w.To > api.End {
			return api.ErrArg
		}
	}
	return api.OK
}
