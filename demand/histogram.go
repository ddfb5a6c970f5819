package demand

import (
	"slices"

	"coilrack/api"
	"coilrack/terms"
)

// Histogram says how often each number was sold on days that were not sold out.
func Histogram(l []api.Sales) ([]int, api.Errno) {
	if e := CheckDays(l); e != api.OK {
		return nil, e
	}
	often := make([]int, api.MaxSold+1)
	for _, s := range l {
		if lasted(s) {
			often[s.Sold]++
		}
	}
	return slices.Clone(trim(often)), api.OK
}

// CheckHistogram says what is wrong with a histogram.
func CheckHistogram(h []int) api.Errno {
	if len(h) > api.MaxBins {
		return api.ErrLarge
	}
	if !terms.AllBetween(h, 0, api.MaxWeight) {
		return api.ErrArg
	}
	switch sum := total(h); {
	case sum == 0:
		return api.ErrNone
	case sum > api.MaxWeight:
		return api.ErrLarge
	}
	return api.OK
}

// Together is the histogram of the sum of several days.
func Together(h []int, days int) ([]int, api.Errno) {
	if e := CheckHistogram(h); e != api.OK {
		return nil, e
	}
	if !terms.Between(days, 1, maxTogether) {
		return nil, api.ErrArg
	}
	one := trim(h)
	if (len(one)-1)*days+1 > api.MaxBins || !fits(total(h), days) {
		return nil, api.ErrLarge
	}
	sums := slices.Clone(one)
	for range days - 1 {
		sums = plus(sums, one)
	}
	return sums, api.OK
}

// Chance is how often a number of at least least occurs.
func Chance(h []int, least int) (api.Fraction, api.Errno) {
	if e := CheckHistogram(h); e != api.OK {
		return api.Fraction{}, e
	}
	if least < 0 {
		return api.Fraction{}, api.ErrArg
	}
	return lowest(total(h[min(least, len(h)):]), total(h)), api.OK
}

// Quantile is the least number that is enough so often.
func Quantile(h []int, percent int) (int, api.Errno) {
	if e := CheckHistogram(h); e != api.OK {
		return 0, e
	}
	if !terms.Between(percent, 1, 100) {
		return 0, api.ErrArg
	}
	sum := total(h)
	n, enough := 0, h[0]
	for 100*enough < percent*sum {
		n++
		enough += h[n]
	}
	return n, api.OK
}

// fits reports whether the sum of a histogram of several days, which is that of one day multiplied by itself, is not too great.
func fits(sum, days int) bool {
	product := 1
	for range days {
		product *= sum
		if product > api.MaxWeight {
			return false
		}
	}
	return true
}

// plus is the histogram of the sum of numbers of a and of b.
func plus(a, b []int) []int {
	sums := make([]int, len(a)+len(b)-1)
	for i, n := range a {
		for j, m := range b {
			sums[i+j] += n * m
		}
	}
	return sums
}

// trim is the part of a list before the zeros at its end.
func trim(h []int) []int {
	n := len(h)
	for n > 0 && h[n-1] == 0 {
		n--
	}
	return h[:n]
}

// total is the sum of a list.
func total(l []int) int {
	sum := 0
	for _, n := range l {
		sum += n
	}
	return sum
}
