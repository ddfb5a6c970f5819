package round

import (
	"cmp"
	"math"
	"slices"

	"coilrack/api"
	"coilrack/terms"
)

// CheckPlan says what is wrong with a week.
func CheckPlan(p api.Week) api.Errno {
	switch {
	case !terms.Between(p.Days, 1, weekLong):
		return api.ErrArg
	case len(p.Jobs) > api.MaxJobs:
		return api.ErrLarge
	case !terms.AllBetween(p.Jobs, 0, maxJob):
		return api.ErrArg
	}
	return api.OK
}

// Loads returns the minutes of each day.
func Loads(p api.Week, days []int) ([]int, api.Errno) {
	if e := CheckPlan(p); e != api.OK {
		return nil, e
	}
	if len(days) != len(p.Jobs) {
		return nil, api.ErrForm
	}
	if !terms.AllBetween(days, 0, p.Days-1) {
		return nil, api.ErrArg
	}
	loads := make([]int, p.Days)
	for job, day := range days {
		loads[day] += p.Jobs[job]
	}
	return loads, api.OK
}

// Level returns days with the least possible greatest load.
func Level(p api.Week) ([]int, int, api.Errno) {
	if e := CheckPlan(p); e != api.OK {
		return nil, 0, e
	}
	if len(p.Jobs) > api.MaxLevel {
		return nil, 0, api.ErrLarge
	}
	days, load := level(p)
	return days, load, api.OK
}

// Fair gives each job to the day with the least load so far.
func Fair(p api.Week) ([]int, api.Errno) {
	if e := CheckPlan(p); e != api.OK {
		return nil, e
	}
	days := make([]int, len(p.Jobs))
	loads := make([]int, p.Days)
	for _, job := range longest(p.Jobs) {
		day := slices.Index(loads, slices.Min(loads))
		days[job] = day
		loads[day] += p.Jobs[job]
	}
	return days, api.OK
}

// Move makes days better by moving one job after the other.
func Move(p api.Week, days []int, rounds int) ([]int, int, api.Errno) {
	loads, e := Loads(p, days)
	if e != api.OK {
		return nil, 0, e
	}
	if !terms.Between(rounds, 0, maxRounds) {
		return nil, 0, api.ErrArg
	}
	better := slices.Clone(days)
	for range rounds {
		job, day, ok := change(p, better, loads)
		if !ok {
			break
		}
		loads[better[job]] -= p.Jobs[job]
		loads[day] += p.Jobs[job]
		better[job] = day
	}
	return better, slices.Max(loads), api.OK
}

// Visits returns the days of a pattern.
func Visits(pattern []int, from, to int) ([]int, api.Errno) {
	if len(pattern) > weekLong {
		return nil, api.ErrLarge
	}
	for i, n := range pattern {
		if !terms.Between(n, 0, weekLong-1) {
			return nil, api.ErrArg
		}
		if i > 0 && n <= pattern[i-1] {
			return nil, api.ErrOrder
		}
	}
	if !terms.Between(from, 0, to) || to > api.MaxDay+1 {
		return nil, api.ErrArg
	}
	var visits []int
	for day := from; day < to; day++ {
		if slices.Contains(pattern, day%weekLong) {
			visits = append(visits, day)
		}
	}
	return visits, api.OK
}

// level returns the least list of days with the least greatest load, and this load.
func level(p api.Week) ([]int, int) {
	least := math.MaxInt
	var best, days []int
	loads := make([]int, p.Days)
	var give func(used, load int)
	give = func(used, load int) { // days that have jobs, and the greatest load so far
		if load >= least {
			return
		}
		job := len(days)
		if job == len(p.Jobs) {
			// The days are met from the least list on: of several the first one stays.
			best, least = slices.Clone(days), load
			return
		}
		// Days without jobs do not differ: the least list has the first one of them.
		for day := range min(used+1, p.Days) {
			days = append(days, day)
			loads[day] += p.Jobs[job]
			give(max(used, day+1), max(load, loads[day]))
			loads[day] -= p.Jobs[job]
			days = days[:job]
		}
	}
	give(0, 0)
	return best, least
}

// longest returns the numbers of jobs, those of the longest ones first.
func longest(jobs []int) []int {
	order := make([]int, len(jobs))
	for i := range order {
		order[i] = i
	}
	slices.SortStableFunc(order, func(a, b int) int { return cmp.Compare(jobs[b], jobs[a]) })
	return order
}

// change returns the job, and the day for it, that make the sum of the squares of all loads as small as possible, the first ones of several; false if nothing makes it less.
func change(p api.Week, days, loads []int) (job, day int, ok bool) {
	least := 0
	for i, minutes := range p.Jobs {
		for d := range p.Days {
			if d == days[i] {
				continue
			}
			// By so much the sum grows: of its squares only two change, that of a load which minutes are taken from and that of one which they are added to.
			if grows := 2 * minutes * (minutes + loads[d] - loads[days[i]]); grows < least {
				job, day, least = i, d, grows
			}
		}
	}
	return job, day, least < 0
}
