package demand_test

import (
	"math"
	"math/rand"
	"slices"
	"testing"

	"coilrack/api"
	"coilrack/demand"
)

// bins is a histogram of n numbers that occur often times each.
func bins(n, often int) []int { return slices.Repeat([]int{often}, n) }

// only is a histogram in which one number occurs often times.
func only(n, often int) []int { return append(make([]int, n), often) }

// someHistogram makes a histogram of up to most numbers that are not all 0, with zeros at its end now and then.
func someHistogram(r *rand.Rand, most, often int) []int {
	h := make([]int, 1+r.Intn(most))
	for i := range h {
		h[i] = max(0, r.Intn(2*often)-often)
	}
	h[r.Intn(len(h))] = 1 + r.Intn(often)
	return h
}

// numbers is each number of a histogram as often as it occurs, in order.
func numbers(h []int) []int {
	var l []int
	for n, often := range h {
		l = append(l, slices.Repeat([]int{n}, often)...)
	}
	return l
}

// counted is the histogram of numbers.
func counted(l []int) []int {
	h := make([]int, slices.Max(l)+1)
	for _, n := range l {
		h[n]++
	}
	return h
}

// P3.2: a histogram of days.
func TestHistogram(t *testing.T) {
	for name, x := range map[string]struct {
		l    []api.Sales
		want []int
	}{
		"the example":           {example(), []int{0, 0, 1, 1}},
		"no days":               {nil, nil},
		"no day that counts":    {[]api.Sales{out(1, 5), out(2, 0)}, nil},
		"nothing was sold":      {[]api.Sales{day(1, 0), day(2, 0)}, []int{2}},
		"out is the most":       {[]api.Sales{day(1, 1), out(2, 4), day(3, 1)}, []int{0, 2}},
		"in any order":          {[]api.Sales{day(1, 3), day(2, 0), day(5, 3), day(6, 1), out(7, 3)}, []int{1, 1, 0, 2}},
		"as much as there is":   {fullDays(), only(1_000, 400)},
		"many zeros in between": {[]api.Sales{day(1, 999), day(2, 1)}, append(append([]int{0, 1}, make([]int, 997)...), 1)},
	} {
		if h, e := demand.Histogram(x.l); !slices.Equal(h, x.want) || e != api.OK {
			t.Errorf("%s: %v %d", name, h, e)
		}
	}
}

// P3.2: what is wrong with histograms; all functions with histograms return this error first.
func TestCheckHistogram(t *testing.T) {
	for name, x := range map[string]struct {
		h    []int
		want api.Errno
	}{
		"too long, all 0":         {make([]int, api.MaxBins+1), api.ErrLarge},
		"too long, below 0":       {bins(api.MaxBins+1, -1), api.ErrLarge},
		"below 0":                 {[]int{5, -1}, api.ErrArg},
		"least":                   {[]int{math.MinInt, 5}, api.ErrArg},
		"too often":               {[]int{0, api.MaxWeight + 1}, api.ErrArg},
		"greatest":                {[]int{math.MaxInt, math.MaxInt}, api.ErrArg},
		"range before sum":        {[]int{api.MaxWeight, 1, -1}, api.ErrArg},
		"nothing":                 {nil, api.ErrNone},
		"an empty list":           {[]int{}, api.ErrNone},
		"zeros":                   {[]int{0, 0, 0}, api.ErrNone},
		"as many zeros as can be": {make([]int, api.MaxBins), api.ErrNone},
		"sum too great":           {[]int{api.MaxWeight, 0, 1}, api.ErrLarge},
		"greatest sum":            {bins(api.MaxBins, api.MaxWeight), api.ErrLarge},
	} {
		if e := demand.CheckHistogram(x.h); e != x.want {
			t.Errorf("%s: CheckHistogram %d", name, e)
		}
		if h, e := demand.Together(x.h, 0); len(h) != 0 || e != x.want {
			t.Errorf("%s: Together %v %d", name, h, e)
		}
		if f, e := demand.Chance(x.h, -1); f != fr(0, 0) || e != x.want {
			t.Errorf("%s: Chance %v %d", name, f, e)
		}
		if n, e := demand.Quantile(x.h, 0); n != 0 || e != x.want {
			t.Errorf("%s: Quantile %d %d", name, n, e)
		}
		if f, e := demand.Expected(x.h, -1); f != fr(0, 0) || e != x.want {
			t.Errorf("%s: Expected %v %d", name, f, e)
		}
		if f, e := demand.Profit(x.h, -1, -1, -1); f != fr(0, 0) || e != x.want {
			t.Errorf("%s: Profit %v %d", name, f, e)
		}
		if n, e := demand.Order(x.h, -1, -1, -1); n != 0 || e != x.want {
			t.Errorf("%s: Order %d %d", name, n, e)
		}
	}
	for _, h := range [][]int{
		{1}, {0, 1}, {1, 0, 0}, {api.MaxWeight}, {api.MaxWeight - 1, 1}, only(api.MaxBins-1, 1), bins(api.MaxBins, 499_750),
	} {
		if e := demand.CheckHistogram(h); e != api.OK {
			t.Errorf("%d bins: %d", len(h), e)
		}
	}
}

// P3.2: the sum of the numbers of several days.
func TestTogether(t *testing.T) {
	for name, x := range map[string]struct {
		h    []int
		days int
		want []int
	}{
		"the example, 1 day":     {[]int{0, 0, 1, 1}, 1, []int{0, 0, 1, 1}},
		"the example, 2 days":    {[]int{0, 0, 1, 1}, 2, []int{0, 0, 0, 0, 1, 2, 1}},
		"the example, 3 days":    {[]int{0, 0, 1, 1}, 3, []int{0, 0, 0, 0, 0, 0, 1, 3, 3, 1}},
		"zeros at its end":       {[]int{1, 2, 0, 0}, 1, []int{1, 2}},
		"zeros at its end twice": {[]int{1, 2, 0, 0}, 2, []int{1, 4, 4}},
		"only 0":                 {[]int{3, 0}, 7, []int{2_187}},
		"a week":                 {[]int{1, 1}, 7, []int{1, 7, 21, 35, 35, 21, 7, 1}},
		"three numbers":          {[]int{2, 0, 3}, 2, []int{4, 0, 12, 0, 9}},
	} {
		if h, e := demand.Together(x.h, x.days); !slices.Equal(h, x.want) || e != api.OK {
			t.Errorf("%s: %v %d", name, h, e)
		}
	}
}

// P3.2: Together up to its bounds, and what it refuses.
func TestTogetherBounds(t *testing.T) {
	for name, x := range map[string]struct {
		h    []int
		days int
		want api.Errno
	}{
		"no day":                            {[]int{1}, 0, api.ErrArg},
		"days below 0":                      {[]int{1}, -1, api.ErrArg},
		"too many days":                     {[]int{1}, 8, api.ErrArg},
		"too many days of too many":         {bins(2_000, 1_000), 8, api.ErrArg},
		"least days":                        {[]int{1}, math.MinInt, api.ErrArg},
		"greatest days":                     {[]int{1}, math.MaxInt, api.ErrArg},
		"all bins in 1 day":                 {only(2_000, 1), 1, api.OK},
		"all bins in 2 days":                {only(1_000, 1), 2, api.OK},
		"one too many in 2 days":            {only(1_001, 1), 2, api.ErrLarge},
		"almost all bins in 3 days":         {only(666, 1), 3, api.OK},
		"one too many in 3 days":            {only(667, 1), 3, api.ErrLarge},
		"zeros at the end do not count":     {append(only(1_000, 1), make([]int, 1_000)...), 2, api.OK},
		"almost all bins in 7 days":         {only(285, 1), 7, api.OK},
		"too many in 7 days":                {only(286, 1), 7, api.ErrLarge},
		"greatest sum in 1 day":             {[]int{api.MaxWeight}, 1, api.OK},
		"greatest sum in 3 days":            {[]int{400, 600}, 3, api.OK},
		"sum too great in 3 days":           {[]int{400, 601}, 3, api.ErrLarge},
		"sum too great in 2 days":           {[]int{31_623}, 2, api.ErrLarge},
		"almost the greatest in 2 days":     {[]int{31_622}, 2, api.OK},
		"sum too great in 7 days":           {[]int{20}, 7, api.ErrLarge},
		"almost the greatest in 7 days":     {[]int{19}, 7, api.OK},
		"sum far too great":                 {[]int{api.MaxWeight}, 7, api.ErrLarge},
		"a sum that would be 0 modulo 2^64": {[]int{1 << 16}, 4, api.ErrLarge},
	} {
		h, e := demand.Together(x.h, x.days)
		if e != x.want || (e == api.OK) != (len(h) > 0) {
			t.Errorf("%s: %d bins, %d", name, len(h), e)
		}
	}
	if h, e := demand.Together(only(1_000, 3), 2); !slices.Equal(h, only(2_000, 9)) || e != api.OK {
		t.Error(len(h), e)
	}
}

// P3.2: Together against all ways in which days can follow one another.
func TestTogetherOfSome(t *testing.T) {
	r := rand.New(rand.NewSource(5))
	for range 500 {
		h := someHistogram(r, 4, 2)
		days := 1 + r.Intn(4)
		sums := numbers(h)
		for range days - 1 {
			var next []int
			for _, a := range sums {
				for _, b := range numbers(h) {
					next = append(next, a+b)
				}
			}
			sums = next
		}
		if g, e := demand.Together(h, days); !slices.Equal(g, counted(sums)) || e != api.OK {
			t.Fatalf("%v %d: %v %d, not %v", h, days, g, e, counted(sums))
		}
	}
}

// P3.2: how often a number or more occurs.
func TestChance(t *testing.T) {
	h := []int{0, 0, 1, 1}
	for _, x := range []struct {
		h     []int
		least int
		want  api.Fraction
	}{
		{h, 0, fr(1, 1)}, {h, 2, fr(1, 1)}, {h, 3, fr(1, 2)}, {h, 4, fr(0, 1)}, {h, 5, fr(0, 1)}, {h, math.MaxInt, fr(0, 1)},
		{[]int{3, 1, 2, 0}, 0, fr(1, 1)}, {[]int{3, 1, 2, 0}, 1, fr(1, 2)}, {[]int{3, 1, 2, 0}, 2, fr(1, 3)}, {[]int{3, 1, 2, 0}, 3, fr(0, 1)},
		{[]int{api.MaxWeight - 1, 1}, 1, fr(1, api.MaxWeight)},
	} {
		if f, e := demand.Chance(x.h, x.least); f != x.want || e != api.OK {
			t.Errorf("%v %d: %v %d", x.h, x.least, f, e)
		}
	}
	for _, least := range []int{-1, math.MinInt} {
		if f, e := demand.Chance(h, least); f != fr(0, 0) || e != api.ErrArg {
			t.Errorf("%d: %v %d", least, f, e)
		}
	}
}

// P3.2: the least number that is enough so often.
func TestQuantile(t *testing.T) {
	h := []int{0, 0, 1, 1}
	for _, x := range []struct {
		h       []int
		percent int
		want    int
	}{
		{h, 1, 2}, {h, 49, 2}, {h, 50, 2}, {h, 51, 3}, {h, 100, 3},
		{[]int{1, 0, 1, 0, 1, 0}, 33, 0}, {[]int{1, 0, 1, 0, 1, 0}, 34, 2}, {[]int{1, 0, 1, 0, 1, 0}, 66, 2},
		{[]int{1, 0, 1, 0, 1, 0}, 67, 4}, {[]int{1, 0, 1, 0, 1, 0}, 100, 4},
		{[]int{0, 5}, 1, 1}, {[]int{5}, 100, 0},
		{[]int{api.MaxWeight - 1, 1}, 99, 0}, {[]int{api.MaxWeight - 1, 1}, 100, 1},
		{only(2_000, api.MaxWeight), 1, 2_000},
	} {
		if n, e := demand.Quantile(x.h, x.percent); n != x.want || e != api.OK {
			t.Errorf("%d bins, %d: %d %d", len(x.h), x.percent, n, e)
		}
	}
	for _, percent := range []int{0, -1, 101, math.MinInt, math.MaxInt} {
		if n, e := demand.Quantile(h, percent); n != 0 || e != api.ErrArg {
			t.Errorf("%d: %d %d", percent, n, e)
		}
	}
}

// P3.2: Histogram, Chance and Quantile against the numbers themselves.
func TestHistogramOfSome(t *testing.T) {
	r := rand.New(rand.NewSource(6))
	for range 1_000 {
		l := someDays(r, 20, 9)
		sold := soldWhere(l, always)
		if len(sold) == 0 {
			continue
		}
		h, e := demand.Histogram(l)
		if !slices.Equal(h, counted(sold)) || e != api.OK {
			t.Fatal(l, h, e)
		}
		least, percent := r.Intn(11), 1+r.Intn(100)
		many, enough := 0, 0
		for _, n := range sold {
			if n >= least {
				many++
			}
		}
		for ; ; enough++ {
			covered := 0
			for _, n := range sold {
				if n <= enough {
					covered++
				}
			}
			if 100*covered >= percent*len(sold) {
				break
			}
		}
		if f, e := demand.Chance(h, least); f != fraction(ratio(many, len(sold))) || e != api.OK {
			t.Fatal(h, least, f, e)
		}
		if n, e := demand.Quantile(h, percent); n != enough || e != api.OK {
			t.Fatal(h, percent, n, e, enough)
		}
	}
}
