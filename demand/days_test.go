package demand_test

import (
	"math"
	"math/big"
	"math/rand"
	"slices"
	"testing"

	"coilrack/api"
	"coilrack/demand"
)

func day(n, sold int) api.Sales { return api.Sales{Day: n, Sold: sold} }

func out(n, sold int) api.Sales { return api.Sales{Day: n, Sold: sold, Out: true} }

func fr(num, den int) api.Fraction { return api.Fraction{Num: num, Den: den} }

// example is the days of the chapter's example.
func example() []api.Sales { return []api.Sales{day(0, 2), out(1, 4), day(2, 3)} }

// fullDays is as many days as there can be, and as much sold.
func fullDays() []api.Sales {
	var l []api.Sales
	for i := range api.MaxHistory {
		l = append(l, day(api.MaxDay-api.MaxHistory+1+i, api.MaxSold))
	}
	return l
}

// someDays makes up to most days in order, with up to sold units.
func someDays(r *rand.Rand, most, sold int) []api.Sales {
	var l []api.Sales
	n := r.Intn(8)
	for range r.Intn(most + 1) {
		l = append(l, api.Sales{Day: n, Sold: r.Intn(sold + 1), Out: r.Intn(3) == 0})
		n += 1 + r.Intn(3)*r.Intn(3)
	}
	return l
}

// fraction is an exact number as a fraction: package big reduces it.
func fraction(x *big.Rat) api.Fraction {
	return fr(int(x.Num().Int64()), int(x.Denom().Int64()))
}

// ratio is an exact quotient.
func ratio(a, b int) *big.Rat { return big.NewRat(int64(a), int64(b)) }

// meanOf is the exact mean of numbers, or nil.
func meanOf(l []int) *big.Rat {
	if len(l) == 0 {
		return nil
	}
	sum := 0
	for _, n := range l {
		sum += n
	}
	return ratio(sum, len(l))
}

// soldWhere is Sold of the days that are not Out and for which ok holds.
func soldWhere(l []api.Sales, ok func(day int) bool) []int {
	var sold []int
	for _, s := range l {
		if !s.Out && ok(s.Day) {
			sold = append(sold, s.Sold)
		}
	}
	return sold
}

func always(int) bool { return true }

// P3.1: what is wrong with days; all functions with days return this error first.
func TestCheckDays(t *testing.T) {
	for name, x := range map[string]struct {
		l    []api.Sales
		want api.Errno
	}{
		"too many, before others": {make([]api.Sales, api.MaxHistory+1), api.ErrLarge},
		"too many bad ones":       {slices.Repeat([]api.Sales{day(-1, -1)}, api.MaxHistory+1), api.ErrLarge},
		"day below 0":             {[]api.Sales{day(-1, 5)}, api.ErrArg},
		"least day":               {[]api.Sales{day(math.MinInt, 5)}, api.ErrArg},
		"day after the last one":  {[]api.Sales{day(0, 5), day(api.MaxDay+1, 5)}, api.ErrArg},
		"greatest day":            {[]api.Sales{day(math.MaxInt, 5)}, api.ErrArg},
		"the same day":            {[]api.Sales{day(3, 5), out(3, 5)}, api.ErrOrder},
		"an earlier day":          {[]api.Sales{day(3, 5), day(2, 5)}, api.ErrOrder},
		"sold below 0":            {[]api.Sales{day(3, -1)}, api.ErrArg},
		"least sold":              {[]api.Sales{out(3, math.MinInt)}, api.ErrArg},
		"too many sold":           {[]api.Sales{day(3, 5), out(4, api.MaxSold+1)}, api.ErrArg},
		"greatest sold":           {[]api.Sales{day(3, math.MaxInt)}, api.ErrArg},
		"day before order":        {[]api.Sales{day(3, 5), day(-1, 5)}, api.ErrArg},
		"order before sold":       {[]api.Sales{day(3, 5), day(3, -1)}, api.ErrOrder},
		"the first one first":     {[]api.Sales{day(3, -1), day(2, 5)}, api.ErrArg},
		"the second one first":    {[]api.Sales{day(3, 1), day(2, 5), day(-1, 5)}, api.ErrOrder},
	} {
		if e := demand.CheckDays(x.l); e != x.want {
			t.Errorf("%s: CheckDays %d", name, e)
		}
		for call, f := range map[string]func([]api.Sales) (api.Fraction, api.Errno){
			"Rate":  demand.Rate,
			"Least": demand.Least,
			"Lift":  func(l []api.Sales) (api.Fraction, api.Errno) { return demand.Lift(l, api.Window{From: -1}) },
			"Error": func(l []api.Sales) (api.Fraction, api.Errno) { return demand.Error(l, make([]int, len(l)+1)) },
		} {
			if q, e := f(x.l); q != fr(0, 0) || e != x.want {
				t.Errorf("%s: %s %v %d", name, call, q, e)
			}
		}
		for call, f := range map[string]func([]api.Sales) ([]int, api.Errno){
			"Uncover":   demand.Uncover,
			"Histogram": demand.Histogram,
			"Smooth":    func(l []api.Sales) ([]int, api.Errno) { return demand.Smooth(l, -1, -1) },
		} {
			if n, e := f(x.l); len(n) != 0 || e != x.want {
				t.Errorf("%s: %s %v %d", name, call, n, e)
			}
		}
		if w, e := demand.Week(x.l); len(w) != 0 || e != x.want {
			t.Errorf("%s: Week %v %d", name, w, e)
		}
	}
	for _, l := range [][]api.Sales{nil, {}, example(), fullDays(), {day(0, 0), out(api.MaxDay, api.MaxSold)}} {
		if e := demand.CheckDays(l); e != api.OK {
			t.Errorf("%v: %d", l, e)
		}
	}
}

// P3.1: what was sold on a day, of days that were not sold out, and of all.
func TestRateAndLeast(t *testing.T) {
	for _, x := range []struct {
		l           []api.Sales
		rate, least api.Fraction
	}{
		{example(), fr(5, 2), fr(3, 1)},
		{[]api.Sales{day(7, 0)}, fr(0, 1), fr(0, 1)},
		{[]api.Sales{day(7, 0), out(8, 5), day(9, 0)}, fr(0, 1), fr(5, 3)},
		{[]api.Sales{day(7, 6), out(8, 1), day(9, 4), day(20, 8), day(21, 2)}, fr(5, 1), fr(21, 5)},
		{[]api.Sales{day(1, 4), day(2, 1), day(3, 1), day(4, 0)}, fr(3, 2), fr(3, 2)},
		{fullDays(), fr(1000, 1), fr(1000, 1)},
	} {
		if f, e := demand.Rate(x.l); f != x.rate || e != api.OK {
			t.Errorf("%v: Rate %v %d", x.l, f, e)
		}
		if f, e := demand.Least(x.l); f != x.least || e != api.OK {
			t.Errorf("%v: Least %v %d", x.l, f, e)
		}
	}
	for _, l := range [][]api.Sales{nil, {}, {out(3, 5)}, {out(3, 5), out(4, 0)}} {
		if f, e := demand.Rate(l); f != fr(0, 0) || e != api.ErrNone {
			t.Errorf("%v: Rate %v %d", l, f, e)
		}
	}
	for _, l := range [][]api.Sales{nil, {}} {
		if f, e := demand.Least(l); f != fr(0, 0) || e != api.ErrNone {
			t.Errorf("%v: Least %v %d", l, f, e)
		}
	}
	if f, e := demand.Least([]api.Sales{out(3, 5), out(4, 0)}); f != fr(5, 2) || e != api.OK {
		t.Error(f, e)
	}
}

// P3.1: what was probably wanted.
func TestUncover(t *testing.T) {
	for _, x := range []struct {
		l    []api.Sales
		want []int
	}{
		{nil, nil},
		{example(), []int{2, 4, 3}},
		{[]api.Sales{day(0, 2), out(1, 1), day(2, 3)}, []int{2, 3, 3}},               // 5/2 rounded up
		{[]api.Sales{day(0, 2), out(1, 1), day(2, 4)}, []int{2, 3, 4}},               // 3 is whole
		{[]api.Sales{day(0, 0), day(1, 0), day(2, 1), out(3, 0)}, []int{0, 0, 1, 1}}, // 1/3 rounded up
		{[]api.Sales{out(0, 3), day(1, 2), day(2, 4), out(3, 2)}, []int{3, 2, 4, 3}},
		{[]api.Sales{day(0, 0), out(1, 0), out(2, 7)}, []int{0, 0, 7}}, // a Rate of 0
		{[]api.Sales{out(0, 3), out(1, 0), out(2, 9)}, []int{3, 0, 9}}, // no Rate
		{[]api.Sales{day(0, 1), day(1, 9), out(2, 0)}, []int{1, 9, 5}}, // days that are not Out stay below the Rate
	} {
		if n, e := demand.Uncover(x.l); !slices.Equal(n, x.want) || e != api.OK {
			t.Errorf("%v: %v %d", x.l, n, e)
		}
	}
}

// P3.1: how the days of the week differ.
func TestWeek(t *testing.T) {
	one := fr(1, 1)
	for name, x := range map[string]struct {
		l    []api.Sales
		want []api.Fraction
	}{
		"no days":        {nil, []api.Fraction{one, one, one, one, one, one, one}},
		"the example":    {example(), []api.Fraction{fr(4, 5), one, fr(6, 5), one, one, one, one}},
		"no Rate":        {[]api.Sales{out(0, 5), out(3, 1)}, []api.Fraction{one, one, one, one, one, one, one}},
		"a Rate of 0":    {[]api.Sales{day(0, 0), out(3, 1)}, []api.Fraction{one, one, one, one, one, one, one}},
		"nothing on one": {[]api.Sales{day(6, 0), day(8, 2)}, []api.Fraction{one, fr(2, 1), one, one, one, one, fr(0, 1)}},
		"several weeks": {
			// Mondays 3 and 6, a Saturday 1, a Thursday 10, and two that were sold out: the Rate is 5
			[]api.Sales{day(0, 3), day(3, 10), day(7, 6), out(10, 40), day(3_995, 1), out(api.MaxDay, 7)},
			[]api.Fraction{fr(9, 10), one, one, fr(2, 1), one, fr(1, 5), one},
		},
	} {
		if w, e := demand.Week(x.l); !slices.Equal(w, x.want) || e != api.OK {
			t.Errorf("%s: %v %d", name, w, e)
		}
	}
}

// P3.1: the Rate of a window, divided by that of the others.
func TestLift(t *testing.T) {
	l := []api.Sales{day(1, 2), day(2, 6), out(3, 50), day(4, 3), day(5, 4)}
	for _, x := range []struct {
		l    []api.Sales
		w    api.Window
		want api.Fraction
	}{
		{example(), api.Window{From: 2, To: 3}, fr(3, 2)},
		{l, api.Window{From: 2, To: 4}, fr(2, 1)},                        // 6 and 3
		{l, api.Window{From: 2, To: 5}, fr(3, 2)},                        // 9/2 and 3
		{l, api.Window{From: 0, To: 2}, fr(6, 13)},                       // 2 and 13/3
		{l, api.Window{From: 5, To: api.MaxDay + 1}, fr(12, 11)},         // 4 and 11/3
		{l, api.Window{From: 3, To: 5}, fr(3, 4)},                        // 3 and 4
		{[]api.Sales{day(0, 0), day(1, 3)}, api.Window{To: 1}, fr(0, 1)}, // 0 inside
		{fullDays(), api.Window{From: api.MaxDay, To: api.MaxDay + 1}, fr(1, 1)},
	} {
		if f, e := demand.Lift(x.l, x.w); f != x.want || e != api.OK {
			t.Errorf("%v %v: %v %d", x.l, x.w, f, e)
		}
	}
}

// P3.1: what Lift refuses, and in which order.
func TestLiftErrors(t *testing.T) {
	l := []api.Sales{day(1, 2), day(2, 6), out(3, 50), day(4, 0)}
	for name, x := range map[string]struct {
		l    []api.Sales
		w    api.Window
		want api.Errno
	}{
		"no days, a bad window":   {nil, api.Window{From: -1, To: 5}, api.ErrArg},
		"from below 0":            {l, api.Window{From: -1, To: 2}, api.ErrArg},
		"least from":              {l, api.Window{From: math.MinInt, To: 2}, api.ErrArg},
		"from after to":           {l, api.Window{From: 3, To: 2}, api.ErrArg},
		"greatest from":           {l, api.Window{From: math.MaxInt, To: 2}, api.ErrArg},
		"to after the last day":   {l, api.Window{From: 2, To: api.MaxDay + 2}, api.ErrArg},
		"greatest to":             {l, api.Window{From: 2, To: math.MaxInt}, api.ErrArg},
		"both after the last day": {l, api.Window{From: api.MaxDay + 2, To: api.MaxDay + 2}, api.ErrArg},
		"no days":                 {nil, api.Window{From: 0, To: 5}, api.ErrNone},
		"none inside":             {l, api.Window{From: 5, To: 9}, api.ErrNone},
		"an empty window":         {l, api.Window{From: 2, To: 2}, api.ErrNone},
		"only sold out inside":    {l, api.Window{From: 3, To: 4}, api.ErrNone},
		"none outside":            {l, api.Window{From: 0, To: 5}, api.ErrNone},
		"only sold out outside":   {l[:3], api.Window{From: 0, To: 3}, api.ErrNone},
		"0 outside":               {l, api.Window{From: 0, To: 4}, api.ErrNone},
	} {
		if f, e := demand.Lift(x.l, x.w); f != fr(0, 0) || e != x.want {
			t.Errorf("%s: %v %d", name, f, e)
		}
	}
}

// P3.1: how wrong guesses were.
func TestError(t *testing.T) {
	for _, x := range []struct {
		l     []api.Sales
		guess []int
		want  api.Fraction
	}{
		{example(), []int{1, 9, 3}, fr(1, 2)},
		{example(), []int{2, 0, 3}, fr(0, 1)},
		{example(), []int{3, 4, 2}, fr(1, 1)}, // above and below do not make up for each other
		{example(), []int{0, 4, 1_000}, fr(999, 2)},
		{[]api.Sales{day(0, 1), day(1, 5), day(2, 9)}, []int{3, 4, 8}, fr(4, 3)},
		{fullDays(), make([]int, api.MaxHistory), fr(1_000, 1)},
	} {
		if f, e := demand.Error(x.l, x.guess); f != x.want || e != api.OK {
			t.Errorf("%v %v: %v %d", x.l, x.guess, f, e)
		}
	}
	for name, x := range map[string]struct {
		l     []api.Sales
		guess []int
		want  api.Errno
	}{
		"too few":                 {example(), []int{1, -1}, api.ErrForm},
		"none":                    {example(), nil, api.ErrForm},
		"too many":                {example(), []int{1, 1, 1, -1}, api.ErrForm},
		"some for no days":        {nil, []int{1}, api.ErrForm},
		"below 0":                 {example(), []int{1, 1, -1}, api.ErrArg},
		"below 0 of a day out":    {example(), []int{1, -1, 1}, api.ErrArg},
		"too great":               {example(), []int{1_001, 1, 1}, api.ErrArg},
		"least":                   {example(), []int{math.MinInt, 1, 1}, api.ErrArg},
		"greatest":                {example(), []int{1, 1, math.MaxInt}, api.ErrArg},
		"range before none":       {[]api.Sales{out(1, 5)}, []int{-1}, api.ErrArg},
		"no days":                 {nil, nil, api.ErrNone},
		"no day that was not out": {[]api.Sales{out(1, 5), out(2, 5)}, []int{1, 1}, api.ErrNone},
	} {
		if f, e := demand.Error(x.l, x.guess); f != fr(0, 0) || e != x.want {
			t.Errorf("%s: %v %d", name, f, e)
		}
	}
}

// P3.1: Rate, Least, Uncover and Error against exact numbers.
func TestDaysOfSome(t *testing.T) {
	r := rand.New(rand.NewSource(1))
	for range 1_000 {
		l := someDays(r, 9, 12)
		var all, wrong, want []int
		guess := make([]int, len(l))
		rate := meanOf(soldWhere(l, always))
		for i, s := range l {
			all = append(all, s.Sold)
			guess[i] = r.Intn(13)
			if !s.Out {
				wrong = append(wrong, int(math.Abs(float64(guess[i]-s.Sold))))
			}
			n := s.Sold
			for s.Out && rate != nil && rate.Cmp(ratio(n, 1)) > 0 {
				n++
			}
			want = append(want, n)
		}
		check(t, l, "Rate", rate, func() (api.Fraction, api.Errno) { return demand.Rate(l) })
		check(t, l, "Least", meanOf(all), func() (api.Fraction, api.Errno) { return demand.Least(l) })
		check(t, l, "Error", meanOf(wrong), func() (api.Fraction, api.Errno) { return demand.Error(l, guess) })
		if n, e := demand.Uncover(l); !slices.Equal(n, want) || e != api.OK {
			t.Fatalf("%v: %v %d, not %v", l, n, e, want)
		}
	}
}

// P3.1: Week and Lift against exact numbers.
func TestPartsOfSome(t *testing.T) {
	r := rand.New(rand.NewSource(2))
	for range 1_000 {
		l := someDays(r, 25, 4)
		rate := meanOf(soldWhere(l, always))
		week, e := demand.Week(l)
		if len(week) != 7 || e != api.OK {
			t.Fatal(l, week, e)
		}
		for i, f := range week {
			own := meanOf(soldWhere(l, func(day int) bool { return day%7 == i }))
			want := ratio(1, 1)
			if own != nil && rate.Sign() > 0 {
				want.Quo(own, rate)
			}
			if f != fraction(want) {
				t.Fatal(l, i, f, want)
			}
		}
		w := api.Window{From: r.Intn(30)}
		w.To = w.From + r.Intn(30)
		inside := meanOf(soldWhere(l, func(day int) bool { return day >= w.From && day < w.To }))
		outside := meanOf(soldWhere(l, func(day int) bool { return day < w.From || day >= w.To }))
		var want *big.Rat
		if inside != nil && outside != nil && outside.Sign() > 0 {
			want = new(big.Rat).Quo(inside, outside)
		}
		check(t, l, "Lift", want, func() (api.Fraction, api.Errno) { return demand.Lift(l, w) })
	}
}

// check compares a result with an exact number, or with ErrNone where that is nil.
func check(t *testing.T, l []api.Sales, name string, want *big.Rat, f func() (api.Fraction, api.Errno)) {
	t.Helper()
	got, e := f()
	if want == nil && (got != fr(0, 0) || e != api.ErrNone) {
		t.Fatalf("%v: %s %v %d, not ErrNone", l, name, got, e)
	}
	if want != nil && (got != fraction(want) || e != api.OK) {
		t.Fatalf("%v: %s %v %d, not %v", l, name, got, e, want)
	}
}
