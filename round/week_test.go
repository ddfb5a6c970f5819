package round_test

import (
	"math"
	"math/rand"
	"slices"
	"testing"

	"coilrack/api"
	"coilrack/round"
)

func week(days int, jobs ...int) api.Week { return api.Week{Jobs: jobs, Days: days} }

// manyJobs makes n jobs of different lengths.
func manyJobs(n int) []int {
	var l []int
	for i := range n {
		l = append(l, 10_000-37*i*i%1_009)
	}
	return l
}

// badWeeks is weeks with their errors.
func badWeeks() map[string]struct {
	p    api.Week
	want api.Errno
} {
	type row = struct {
		p    api.Week
		want api.Errno
	}
	return map[string]row{
		"no days":               {week(0, 1), api.ErrArg},
		"no days and no jobs":   {week(0), api.ErrArg},
		"days below 0":          {week(-1, 1), api.ErrArg},
		"too many days":         {week(8, 1), api.ErrArg},
		"the least days":        {week(math.MinInt), api.ErrArg},
		"the most days":         {week(math.MaxInt), api.ErrArg},
		"too many jobs":         {week(2, manyJobs(61)...), api.ErrLarge},
		"a job below 0":         {week(2, -1, 1), api.ErrArg},
		"a job too long":        {week(2, 1, 10_001), api.ErrArg},
		"the least job":         {week(2, math.MinInt), api.ErrArg},
		"the longest job":       {week(2, math.MaxInt), api.ErrArg},
		"days before many jobs": {week(8, make([]int, 61)...), api.ErrArg},
		"many jobs before each": {week(2, append(make([]int, 60), -1)...), api.ErrLarge},
	}
}

// P6.3: what is wrong with weeks, of all functions that take them, before their own errors.
func TestBadWeeks(t *testing.T) {
	for name, x := range badWeeks() {
		if e := round.CheckPlan(x.p); e != x.want {
			t.Errorf("%s: %d", name, e)
		}
		for _, days := range [][]int{nil, {-1}, make([]int, len(x.p.Jobs))} {
			if l, e := round.Loads(x.p, days); len(l) != 0 || e != x.want {
				t.Errorf("%s: Loads %v %d", name, l, e)
			}
			if d, n, e := round.Move(x.p, days, -1); len(d) != 0 || n != 0 || e != x.want {
				t.Errorf("%s: Move %v %d %d", name, d, n, e)
			}
		}
		if d, n, e := round.Level(x.p); len(d) != 0 || n != 0 || e != x.want {
			t.Errorf("%s: Level %v %d %d", name, d, n, e)
		}
		if d, e := round.Fair(x.p); len(d) != 0 || e != x.want {
			t.Errorf("%s: Fair %v %d", name, d, e)
		}
	}
	nine := make([]int, 9)
	nine[8] = 10_001
	if d, n, e := round.Level(week(7, nine...)); len(d) != 0 || n != 0 || e != api.ErrArg {
		t.Error(d, n, e)
	}
}

// P6.3: weeks that are right.
func TestGoodWeeks(t *testing.T) {
	for _, p := range []api.Week{
		week(1), week(7), week(1, 0, 10_000), week(7, manyJobs(60)...), {Jobs: []int{}, Days: 3},
	} {
		if e := round.CheckPlan(p); e != api.OK {
			t.Errorf("%v: %d", p, e)
		}
	}
}

// P6.3: the minutes of each day.
func TestLoads(t *testing.T) {
	p := week(3, 5, 4, 3, 3)
	for name, x := range map[string]struct {
		p    api.Week
		days []int
		want []int
	}{
		"each day":       {p, []int{0, 1, 2, 0}, []int{8, 4, 3}},
		"one day":        {p, []int{1, 1, 1, 1}, []int{0, 15, 0}},
		"no jobs":        {week(2), nil, []int{0, 0}},
		"a day":          {week(1, 7, 8), []int{0, 0}, []int{15}},
		"the last days":  {p, []int{2, 2, 1, 2}, []int{0, 3, 12}},
		"all there is":   {week(7, slices.Repeat([]int{10_000}, 60)...), slices.Repeat([]int{6}, 60), []int{0, 0, 0, 0, 0, 0, 600_000}},
		"jobs without 0": {week(2, 0, 0, 1), []int{1, 0, 0}, []int{1, 0}},
	} {
		if l, e := round.Loads(x.p, x.days); !slices.Equal(l, x.want) || e != api.OK {
			t.Errorf("%s: %v %d", name, l, e)
		}
	}
}

// badDays is days of four jobs on three days with their errors.
func badDays() map[string]struct {
	days []int
	want api.Errno
} {
	type row = struct {
		days []int
		want api.Errno
	}
	return map[string]row{
		"none":            {nil, api.ErrForm},
		"too few":         {[]int{0, 1, 2}, api.ErrForm},
		"too many":        {[]int{0, 1, 2, 0, 1}, api.ErrForm},
		"a day below 0":   {[]int{-1, 1, 2, 0}, api.ErrArg},
		"no such day":     {[]int{0, 1, 2, 3}, api.ErrArg},
		"the least day":   {[]int{0, math.MinInt, 2, 0}, api.ErrArg},
		"the last day":    {[]int{0, 1, math.MaxInt, 0}, api.ErrArg},
		"form before arg": {[]int{0, 1, 3}, api.ErrForm},
		"a long list":     {make([]int, 200_000), api.ErrForm},
	}
}

// P6.3: errors of Loads and of Move.
func TestBadDays(t *testing.T) {
	p := week(3, 5, 4, 3, 3)
	for name, x := range badDays() {
		if l, e := round.Loads(p, x.days); len(l) != 0 || e != x.want {
			t.Errorf("%s: Loads %v %d", name, l, e)
		}
		for _, rounds := range []int{1, -1, 101} {
			if d, n, e := round.Move(p, x.days, rounds); len(d) != 0 || n != 0 || e != x.want {
				t.Errorf("%s: Move %v %d %d", name, d, n, e)
			}
		}
	}
	for _, rounds := range []int{-1, 101, math.MinInt, math.MaxInt} {
		if d, n, e := round.Move(p, []int{0, 1, 2, 0}, rounds); len(d) != 0 || n != 0 || e != api.ErrArg {
			t.Errorf("%d: %v %d %d", rounds, d, n, e)
		}
	}
	if l, e := round.Loads(week(2), []int{0}); len(l) != 0 || e != api.ErrForm {
		t.Error(l, e)
	}
}

// P6.3: the least greatest load.
func TestLevel(t *testing.T) {
	for name, x := range map[string]struct {
		p    api.Week
		want []int
		load int
	}{
		"two days":                  {week(2, 5, 4, 3, 3), []int{0, 1, 0, 1}, 8},
		"a day":                     {week(1, 5, 4, 3, 3), []int{0, 0, 0, 0}, 15},
		"no jobs":                   {week(7), nil, 0},
		"one job":                   {week(7, 9), []int{0}, 9},
		"nothing to do":             {week(3, 0, 0, 0), []int{0, 0, 0}, 0},
		"what is as good, first":    {week(3, 3, 5, 2), []int{0, 1, 0}, 5},
		"nothing last":              {week(2, 4, 4, 0), []int{0, 1, 0}, 4},
		"nothing first":             {week(2, 0, 4, 4), []int{0, 0, 1}, 4},
		"as long as all others":     {week(3, 1, 2, 3, 9), []int{0, 0, 0, 1}, 9},
		"more days than jobs":       {week(7, 1, 1, 2), []int{0, 0, 1}, 2},
		"better than Fair":          {week(2, 3, 3, 2, 2, 2), []int{0, 0, 1, 1, 1}, 6},
		"eight on seven days":       {week(7, 8, 8, 8, 8, 8, 8, 8, 8), []int{0, 0, 1, 1, 2, 2, 3, 3}, 16},
		"eight different ones":      {week(2, 1, 2, 4, 8, 16, 32, 64, 128), []int{0, 0, 0, 0, 0, 0, 0, 1}, 128},
		"a later day for the first": {week(2, 1, 5, 5), []int{0, 0, 1}, 6},
	} {
		if d, n, e := round.Level(x.p); !slices.Equal(d, x.want) || n != x.load || e != api.OK {
			t.Errorf("%s: %v %d %d", name, d, n, e)
		}
	}
	if d, n, e := round.Level(week(7, manyJobs(9)...)); len(d) != 0 || n != 0 || e != api.ErrLarge {
		t.Error(d, n, e)
	}
	if d, n, e := round.Level(week(1, manyJobs(60)...)); len(d) != 0 || n != 0 || e != api.ErrLarge {
		t.Error(d, n, e)
	}
	p := week(7, manyJobs(8)...)
	if d, n, e := round.Level(p); len(d) != 8 || n != greatest(t, p, d) || e != api.OK {
		t.Error(d, n, e)
	}
}

// greatest is the greatest load of days.
func greatest(t *testing.T, p api.Week, days []int) int {
	t.Helper()
	l, e := round.Loads(p, days)
	if e != api.OK || len(l) != p.Days {
		t.Fatal(p, days, l, e)
	}
	return slices.Max(l)
}

// eachDays calls f with all days of jobs, from the least list on.
func eachDays(p api.Week, f func(days []int)) {
	var add func(days []int)
	add = func(days []int) {
		if len(days) == len(p.Jobs) {
			f(days)
			return
		}
		for day := range p.Days {
			add(append(days[:len(days):len(days)], day))
		}
	}
	add(nil)
}

// someJobs makes a week of up to most jobs, some of which are equal or of 0 minutes.
func someJobs(r *rand.Rand, days, most int) api.Week {
	p := api.Week{Days: days}
	for range r.Intn(most + 1) {
		p.Jobs = append(p.Jobs, r.Intn(9))
	}
	return p
}

// P6.3: Level against all days.
func TestLevelOfAll(t *testing.T) {
	r := rand.New(rand.NewSource(8))
	for range 600 {
		p := someJobs(r, 1+r.Intn(4), 6)
		var want []int
		least := math.MaxInt
		eachDays(p, func(days []int) {
			if n := greatest(t, p, days); n < least {
				want, least = days, n
			}
		})
		if d, n, e := round.Level(p); !slices.Equal(d, want) || n != least || e != api.OK {
			t.Fatalf("%v: %v %d %d, not %v %d", p, d, n, e, want, least)
		}
	}
}

// P6.3: each job to the day with the least load so far.
func TestFair(t *testing.T) {
	for name, x := range map[string]struct {
		p    api.Week
		want []int
	}{
		"two days":              {week(2, 5, 4, 3, 3), []int{0, 1, 1, 0}},
		"a day":                 {week(1, 5, 4, 3, 3), []int{0, 0, 0, 0}},
		"no jobs":               {week(7), nil},
		"the longest first":     {week(2, 3, 3, 4, 5), []int{1, 0, 1, 0}},
		"equal ones in order":   {week(3, 4, 4, 4, 4), []int{0, 1, 2, 0}},
		"nothing to do":         {week(3, 0, 0, 0), []int{0, 0, 0}},
		"worse than Level":      {week(2, 3, 3, 2, 2, 2), []int{0, 1, 0, 1, 0}},
		"nothing, at the end":   {week(3, 0, 7, 7), []int{2, 0, 1}},
		"more days than jobs":   {week(7, 1, 3, 2), []int{2, 0, 1}},
		"the first of the days": {week(3, 9, 2, 2, 1), []int{0, 1, 2, 1}},
	} {
		if d, e := round.Fair(x.p); !slices.Equal(d, x.want) || e != api.OK {
			t.Errorf("%s: %v %d", name, d, e)
		}
	}
}

// P6.3: Fair job by job, and not above the mean and the longest job together.
func TestFairOfMany(t *testing.T) {
	r := rand.New(rand.NewSource(9))
	for range 600 {
		p := someJobs(r, 1+r.Intn(7), 60)
		want, loads := make([]int, len(p.Jobs)), make([]int, p.Days)
		sum, top := 0, 0
		for minutes := 8; minutes >= 0; minutes-- {
			for i, job := range p.Jobs {
				if job != minutes {
					continue
				}
				for day := range p.Days {
					if loads[day] < loads[want[i]] {
						want[i] = day
					}
				}
				loads[want[i]] += job
				sum, top = sum+job, max(top, job)
			}
		}
		d, e := round.Fair(p)
		if !slices.Equal(d, want) || e != api.OK {
			t.Fatalf("%v: %v %d, not %v", p, d, e, want)
		}
		if n := greatest(t, p, d); n*p.Days > sum+top*p.Days {
			t.Fatalf("%v: %v has a load of %d", p, d, n)
		}
	}
	if d, e := round.Fair(week(7, slices.Repeat([]int{10_000}, 60)...)); len(d) != 60 || d[59] != 3 || e != api.OK {
		t.Error(d, e)
	}
}

// P6.3: one job after the other gets another day.
func TestMove(t *testing.T) {
	p := week(3, 5, 4, 3, 3)
	for name, x := range map[string]struct {
		p      api.Week
		days   []int
		rounds int
		want   []int
		load   int
	}{
		"no rounds":                 {p, []int{0, 0, 0, 0}, 0, []int{0, 0, 0, 0}, 15},
		"a round":                   {p, []int{0, 0, 0, 0}, 1, []int{1, 0, 0, 0}, 10},
		"two rounds":                {p, []int{0, 0, 0, 0}, 2, []int{1, 2, 0, 0}, 6},
		"nothing is better":         {p, []int{0, 0, 0, 0}, 3, []int{1, 2, 0, 0}, 6},
		"as many as can be":         {p, []int{2, 2, 2, 2}, 100, []int{0, 1, 2, 2}, 6},
		"the greatest load":         {p, []int{0, 1, 2, 1}, 0, []int{0, 1, 2, 1}, 7},
		"no jobs":                   {week(2), nil, 5, nil, 0},
		"one day":                   {week(1, 5, 5), []int{0, 0}, 5, []int{0, 0}, 10},
		"as good as before":         {week(2, 3), []int{1}, 5, []int{1}, 3},
		"not the first day":         {week(3, 3, 3), []int{1, 1}, 5, []int{0, 1}, 3},
		"the first job of several":  {week(2, 2, 2, 2), []int{1, 1, 1}, 1, []int{0, 1, 1}, 4},
		"the first day of several":  {week(4, 2, 2), []int{2, 2}, 1, []int{0, 2}, 2},
		"what changes most":         {week(2, 1, 6, 2, 9), []int{1, 1, 1, 1}, 1, []int{1, 1, 1, 0}, 9},
		"a job of no minutes":       {week(2, 0, 4), []int{1, 1}, 5, []int{1, 1}, 4},
		"the greatest load is less": {week(3, 4, 4, 4, 1), []int{0, 0, 1, 1}, 1, []int{2, 0, 1, 1}, 5},
		"no better by one job":      {week(2, 3, 3, 2, 2, 2), []int{0, 1, 0, 1, 0}, 100, []int{0, 1, 0, 1, 0}, 7},
	} {
		if d, n, e := round.Move(x.p, x.days, x.rounds); !slices.Equal(d, x.want) || n != x.load || e != api.OK {
			t.Errorf("%s: %v %d %d", name, d, n, e)
		}
	}
}

// moved makes days better as the chapter says.
func moved(t *testing.T, p api.Week, days []int, rounds int) []int {
	t.Helper()
	squares := func(days []int) int {
		l, e := round.Loads(p, days)
		if e != api.OK {
			t.Fatal(p, days, e)
		}
		sum := 0
		for _, n := range l {
			sum += n * n
		}
		return sum
	}
	for range rounds {
		better, least := days, squares(days)
		for job := range days {
			for day := range p.Days {
				other := slices.Clone(days)
				other[job] = day
				if n := squares(other); n < least {
					better, least = other, n
				}
			}
		}
		if slices.Equal(better, days) {
			break
		}
		days = better
	}
	return days
}

// P6.3: Move against all changes; Level is not greater than Fair, nor than Move.
func TestMoveOfAll(t *testing.T) {
	r := rand.New(rand.NewSource(10))
	changed := 0
	for range 1_000 {
		p := someJobs(r, 1+r.Intn(5), 8)
		days := make([]int, len(p.Jobs))
		for i := range days {
			days[i] = r.Intn(p.Days)
		}
		_, least, e := round.Level(p)
		if e != api.OK {
			t.Fatal(p, e)
		}
		for _, rounds := range []int{0, 1, 2, 100} {
			want := moved(t, p, days, rounds)
			d, n, e := round.Move(p, days, rounds)
			if !slices.Equal(d, want) || n != greatest(t, p, want) || e != api.OK || n < least {
				t.Fatalf("%v %v %d: %v %d %d, not %v", p, days, rounds, d, n, e, want)
			}
			if rounds == 1 && !slices.Equal(d, days) {
				changed++
			}
		}
		if d, e := round.Fair(p); e != api.OK || greatest(t, p, d) < least {
			t.Fatal(p, d, e, least)
		}
	}
	if changed < 300 {
		t.Error(changed)
	}
	p := week(7, manyJobs(60)...)
	days := make([]int, 60)
	want := moved(t, p, days, 100)
	if d, n, e := round.Move(p, days, 100); !slices.Equal(d, want) || n != greatest(t, p, want) || e != api.OK {
		t.Error(d, n, e, want)
	}
	if d, _, e := round.Move(p, days, 20); slices.Equal(d, want) || e != api.OK {
		t.Error("20 rounds are too few", d, e)
	}
}

// P6.3: the days of a pattern.
func TestVisits(t *testing.T) {
	for name, x := range map[string]struct {
		pattern  []int
		from, to int
		want     []int
	}{
		"two days of the week":    {[]int{0, 3}, 1, 9, []int{3, 7}},
		"from on":                 {[]int{0, 3}, 3, 9, []int{3, 7}},
		"before to":               {[]int{0, 3}, 0, 7, []int{0, 3}},
		"and the last one":        {[]int{0, 3}, 0, 8, []int{0, 3, 7}},
		"no days":                 {[]int{0, 1, 2, 3, 4, 5, 6}, 5, 5, nil},
		"none at the start":       {[]int{0}, 0, 0, nil},
		"no pattern":              {nil, 0, 100, nil},
		"every day":               {[]int{0, 1, 2, 3, 4, 5, 6}, 4, 9, []int{4, 5, 6, 7, 8}},
		"sundays":                 {[]int{6}, 0, 21, []int{6, 13, 20}},
		"the last day":            {[]int{3}, 3_990, api.MaxDay + 1, []int{3_993, 4_000}},
		"the day before the last": {[]int{2, 4}, 3_994, api.MaxDay, []int{3_994, 3_999}},
		"behind the last day":     {[]int{0, 1, 2, 3, 4, 5, 6}, api.MaxDay + 1, api.MaxDay + 1, nil},
	} {
		if l, e := round.Visits(x.pattern, x.from, x.to); !slices.Equal(l, x.want) || e != api.OK {
			t.Errorf("%s: %v %d", name, l, e)
		}
	}
	if l, e := round.Visits([]int{0, 1, 2, 3, 4, 5, 6}, 0, api.MaxDay+1); len(l) != api.MaxDay+1 || l[api.MaxDay] != api.MaxDay || e != api.OK {
		t.Error(len(l), e)
	}
}

// P6.3: errors of Visits.
func TestNoVisits(t *testing.T) {
	for name, x := range map[string]struct {
		pattern  []int
		from, to int
		want     api.Errno
	}{
		"too many":                  {[]int{0, 1, 2, 3, 4, 5, 6, 7}, 0, 9, api.ErrLarge},
		"a day below 0":             {[]int{-1, 0}, 0, 9, api.ErrArg},
		"a day too great":           {[]int{0, 7}, 0, 9, api.ErrArg},
		"the least day":             {[]int{math.MinInt}, 0, 9, api.ErrArg},
		"the greatest day":          {[]int{math.MaxInt}, 0, 9, api.ErrArg},
		"twice":                     {[]int{3, 3}, 0, 9, api.ErrOrder},
		"not in order":              {[]int{0, 4, 3}, 0, 9, api.ErrOrder},
		"from below 0":              {[]int{0}, -1, 9, api.ErrArg},
		"from after to":             {[]int{0}, 10, 9, api.ErrArg},
		"both below 0":              {[]int{0}, -2, -1, api.ErrArg},
		"to too great":              {[]int{0}, 0, api.MaxDay + 2, api.ErrArg},
		"both too great":            {nil, api.MaxDay + 2, api.MaxDay + 2, api.ErrArg},
		"the least from":            {nil, math.MinInt, 9, api.ErrArg},
		"the greatest to":           {nil, 0, math.MaxInt, api.ErrArg},
		"the least to":              {nil, 0, math.MinInt, api.ErrArg},
		"large before each":         {slices.Repeat([]int{-1}, 8), 0, 9, api.ErrLarge},
		"large before days":         {make([]int, 200_000), -1, 9, api.ErrLarge},
		"arg before order":          {[]int{3, -1}, 0, 9, api.ErrArg},
		"order of the first before": {[]int{3, 3, 7}, 0, 9, api.ErrOrder},
		"order before days":         {[]int{3, 2}, -1, 9, api.ErrOrder},
	} {
		if l, e := round.Visits(x.pattern, x.from, x.to); len(l) != 0 || e != x.want {
			t.Errorf("%s: %v %d", name, l, e)
		}
	}
}
