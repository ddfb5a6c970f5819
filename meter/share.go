package meter

import (
	"cmp"
	"maps"
	"slices"

	"coilrack/api"
	"coilrack/terms"
)

// Share divides a total among weights.
func Share(total int, weights []int) ([]int, api.Errno) {
	sum, e := checkShare(total, weights)
	if e != api.OK {
		return nil, e
	}
	parts := make([]int, len(weights))
	rest := make([]int, len(weights))
	order := make([]int, len(weights))
	left := total
	for i, w := range weights {
		parts[i] = total * w / sum
		rest[i] = total * w % sum
		order[i] = i
		left -= parts[i]
	}
	slices.SortStableFunc(order, func(a, b int) int { return cmp.Compare(rest[b], rest[a]) })
	// The remainders are together left times sum, and each is less than sum: more than left of them are above 0.
	for _, i := range order[:left] {
		parts[i]++
	}
	return parts, api.OK
}

// Days divides what a counter sold among days.
func Days(m api.Meter, l []api.Reading, counter int) ([]api.DayCount, api.Errno) {
	steps, e := Steps(m, l)
	if e != api.OK {
		return nil, e
	}
	if !terms.Between(counter, 0, m.Counters-1) {
		return nil, api.ErrArg
	}
	sold := map[int]int{} // by day
	for _, s := range steps {
		parts, e := Share(s.Sold[counter], minutes(s.From, s.To))
		if e != api.OK {
			return nil, e
		}
		for i, n := range parts {
			sold[s.From/api.DayLong+i] += n
		}
	}
	var days []api.DayCount
	for _, d := range slices.Sorted(maps.Keys(sold)) {
		if sold[d] > 0 {
			days = append(days, api.DayCount{Day: d, Many: sold[d]})
		}
	}
	return days, api.OK
}

// checkShare returns the sum of weights, or what is wrong with them or the total.
func checkShare(total int, weights []int) (int, api.Errno) {
	switch {
	case !terms.Between(total, 0, maxTotal):
		return 0, api.ErrArg
	case len(weights) == 0:
		return 0, api.ErrNone
	case len(weights) > maxWeights:
		return 0, api.ErrLarge
	case !terms.AllBetween(weights, 0, maxWeight):
		return 0, api.ErrArg
	}
	sum := 0
	for _, w := range weights {
		sum += w
	}
	if sum == 0 {
		return 0, api.ErrArg
	}
	return sum, api.OK
}

// minutes returns how many minutes between two moments lie in each day, from that of the first one to that of the second one.
func minutes(from, to int) []int {
	var long []int
	for day := from / api.DayLong; day <= to/api.DayLong; day++ {
		long = append(long, min(to, (day+1)*api.DayLong)-max(from, day*api.DayLong))
	}
	return long
}
