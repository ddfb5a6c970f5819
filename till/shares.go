package till

import (
	"cmp"
	"maps"
	"slices"

	"coilrack/api"
	"coilrack/meter"
	"coilrack/terms"
)

// CheckTiers says what is wrong with tiers.
func CheckTiers(l []api.Tier) api.Errno {
	switch {
	case len(l) == 0:
		return api.ErrNone
	case len(l) > maxTiers:
		return api.ErrLarge
	case l[0].From != 0:
		return api.ErrArg
	}
	for i, t := range l {
		switch {
		case !terms.Between(t.From, 0, api.MaxCents):
			return api.ErrArg
		case i > 0 && t.From <= l[i-1].From:
			return api.ErrOrder
		case !terms.Between(t.Rate, 0, maxRate):
			return api.ErrArg
		}
	}
	return api.OK
}

// Commission is what is due of sales.
func Commission(l []api.Tier, sales int) (int, api.Errno) {
	if e := CheckTiers(l); e != api.OK {
		return 0, e
	}
	if !terms.Between(sales, 0, api.MaxCents) {
		return 0, api.ErrArg
	}
	sum := 0
	for i, t := range l {
		end := sales
		if i+1 < len(l) {
			end = min(sales, l[i+1].From)
		}
		sum += max(0, end-t.From) * t.Rate
	}
	return even(sum, maxRate), api.OK
}

// Even rounds a quotient to the nearest number.
func Even(num, den int) (int, api.Errno) {
	if !terms.Between(num, -maxNum, maxNum) || !terms.Between(den, 1, maxDen) {
		return 0, api.ErrArg
	}
	return even(num, den), api.OK
}

// Net takes a tax out of a price.
func Net(gross, rate int) (net, tax int, e api.Errno) {
	if !terms.Between(gross, 0, api.MaxCents) || !terms.Between(rate, 0, maxRate) {
		return 0, 0, api.ErrArg
	}
	net = netOf(gross, rate)
	return net, gross - net, api.OK
}

// Taxes sums charges by rates.
func Taxes(l []api.Charge) ([]api.Taxed, api.Errno) {
	if len(l) > maxCharges {
		return nil, api.ErrLarge
	}
	sums := map[int]int{} // by Rate
	for _, c := range l {
		if !terms.Between(c.Rate, 0, maxRate) || !terms.Between(c.Gross, 0, api.MaxBagCents) {
			return nil, api.ErrArg
		}
		sums[c.Rate] += c.Gross
	}
	var taxes []api.Taxed
	for _, rate := range slices.Sorted(maps.Keys(sums)) {
		net := netOf(sums[rate], rate) // not Net: a sum can be greater than the gross price that it takes
		taxes = append(taxes, api.Taxed{Rate: rate, Gross: sums[rate], Net: net, Tax: sums[rate] - net})
	}
	return taxes, api.OK
}

// Shares divides a total among partners.
func Shares(total int, l []api.Named) ([]int, api.Errno) {
	if e := checkPartners(l); e != api.OK {
		return nil, e
	}
	byKey := slices.SortedFunc(slices.Values(l), func(a, b api.Named) int { return cmp.Compare(a.Key, b.Key) })
	weights := make([]int, len(l))
	for i, p := range byKey {
		weights[i] = p.Many
	}
	parts, e := meter.Share(total, weights)
	if e != api.OK {
		return nil, e
	}
	part := map[string]int{} // by Key
	for i, p := range byKey {
		part[p.Key] = parts[i]
	}
	shares := make([]int, len(l))
	for i, p := range l {
		shares[i] = part[p.Key]
	}
	return shares, api.OK
}

// checkPartners says what is wrong with partners, without their weights.
func checkPartners(l []api.Named) api.Errno {
	if len(l) > maxPartners {
		return api.ErrLarge
	}
	for i, p := range l {
		if !terms.IsKey(p.Key) {
			return api.ErrName
		}
		if slices.ContainsFunc(l[:i], func(other api.Named) bool { return other.Key == p.Key }) {
			return api.ErrTwice
		}
	}
	return api.OK
}

// even is Even of numbers that are in their ranges.
func even(num, den int) int {
	n, rest := num/den, num%den
	if rest < 0 { // the division rounded up
		n, rest = n-1, rest+den
	}
	if 2*rest > den || 2*rest == den && n%2 != 0 {
		n++
	}
	return n
}

// netOf is what is left of a gross price, or of a sum of them, without the tax.
func netOf(gross, rate int) int { return even(gross*maxRate, maxRate+rate) }
