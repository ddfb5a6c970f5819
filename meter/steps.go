package meter

import (
	"slices"

	"coilrack/api"
	"coilrack/terms"
)

// Steps returns what happened from each reading to the next one.
func Steps(m api.Meter, l []api.Reading) ([]api.Step, api.Errno) {
	sorted, e := Sort(m, l)
	if e != api.OK {
		return nil, e
	}
	var steps []api.Step
	for i := 1; i < len(sorted); i++ {
		steps = append(steps, step(m, sorted[i-1], sorted[i]))
	}
	return steps, api.OK
}

// Sold is what each counter sold.
func Sold(m api.Meter, l []api.Reading) ([]int, api.Errno) {
	steps, e := Steps(m, l)
	if e != api.OK {
		return nil, e
	}
	sums := make([]int, m.Counters)
	for _, s := range steps {
		for i, n := range s.Sold {
			sums[i] += n
		}
	}
	return sums, api.OK
}

// Resets returns the moments behind which counters were reset.
func Resets(m api.Meter, l []api.Reading) ([]int, api.Errno) {
	steps, e := Steps(m, l)
	if e != api.OK {
		return nil, e
	}
	var resets []int
	for _, s := range steps {
		if s.Reset {
			resets = append(resets, s.To)
		}
	}
	return resets, api.OK
}

// Agree compares what was counted otherwise.
func Agree(m api.Meter, l []api.Reading, sold []int, within int) ([]api.Apart, api.Errno) {
	sums, e := Sold(m, l)
	if e != api.OK {
		return nil, e
	}
	if len(sold) != m.Counters {
		return nil, api.ErrForm
	}
	if !terms.AllBetween(sold, 0, maxTotal) || !terms.Between(within, 0, maxTotal) {
		return nil, api.ErrArg
	}
	var apart []api.Apart
	for i, n := range sums {
		if !terms.Between(n-sold[i], -within, within) {
			apart = append(apart, api.Apart{Counter: i, Meter: n, Other: sold[i]})
		}
	}
	return apart, api.OK
}

// step returns what happened from a reading to the next one.
func step(m api.Meter, a, b api.Reading) api.Step {
	most := limit(m, a.At, b.At)
	ups := make([]int, m.Counters)
	for i := range ups {
		ups[i] = b.Values[i] - a.Values[i]
		if ups[i] < 0 {
			ups[i] += m.Turn
		}
		if ups[i] > most {
			return api.Step{From: a.At, To: b.At, Reset: true, Sold: slices.Clone(b.Values)}
		}
	}
	return api.Step{From: a.At, To: b.At, Sold: ups}
}

// limit is how many units a counter can go up between two moments.
func limit(m api.Meter, from, to int) int {
	days := to/api.DayLong - from/api.DayLong + 1
	return min(m.Fast*days, m.Turn-1)
}
