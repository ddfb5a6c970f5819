package demand

import (
	"coilrack/api"
	"coilrack/terms"
)

// Expected is what is sold of a load.
func Expected(h []int, load int) (api.Fraction, api.Errno) {
	if e := checkLoad(h, load); e != api.OK {
		return api.Fraction{}, e
	}
	return lowest(sales(h, load), total(h)), api.OK
}

// Profit is the profit of a load.
func Profit(h []int, load, margin, waste int) (api.Fraction, api.Errno) {
	if e := checkUnit(h, load, margin, waste); e != api.OK {
		return api.Fraction{}, e
	}
	sum, sold := total(h), sales(h, load)
	return lowest(margin*sold-waste*(load*sum-sold), sum), api.OK
}

// Order returns the load with the greatest profit.
func Order(h []int, most, margin, waste int) (int, api.Errno) {
	if e := checkUnit(h, most, margin, waste); e != api.OK {
		return 0, e
	}
	sum := total(h)
	n, more := 0, sum-h[0] // more: how often more than n are wanted
	// One more unit brings margin and saves waste where it is sold, and costs waste where it is loaded. Later ones are sold less often.
	for n < most && (margin+waste)*more > waste*sum {
		n++
		more -= h[n]
	}
	return n, api.OK
}

// checkLoad says what is wrong with a histogram and a load.
func checkLoad(h []int, load int) api.Errno {
	if e := CheckHistogram(h); e != api.OK {
		return e
	}
	if !terms.Between(load, 0, api.MaxBins) {
		return api.ErrArg
	}
	return api.OK
}

// checkUnit says what is wrong with a histogram, a load, and the margin and waste of a unit.
func checkUnit(h []int, load, margin, waste int) api.Errno {
	if e := checkLoad(h, load); e != api.OK {
		return e
	}
	if !terms.Between(margin, 0, maxUnit) || !terms.Between(waste, 0, maxUnit) {
		return api.ErrArg
	}
	return api.OK
}

// sales is the sum of what is sold of a load, each number as often as it occurs.
func sales(h []int, load int) int {
	sum := 0
	for n, often := range h {
		sum += often * min(n, load)
	}
	return sum
}
