package till_test

import (
	"fmt"
	"math"
	"math/big"
	"math/bits"
	"math/rand"
	"slices"
	"testing"

	"coilrack/api"
	"coilrack/till"
)

func bag(day int, who string, meter, found int) api.Bag {
	return api.Bag{Day: day, Who: who, Meter: meter, Found: found}
}

func named(key string, many int) api.Named { return api.Named{Key: key, Many: many} }

// offsOf makes bags of a person with these Offs.
func offsOf(who string, offs ...int) []api.Bag {
	var l []api.Bag
	for _, n := range offs {
		l = append(l, bag(1, who, 1_000, 1_000+n))
	}
	return l
}

// manyBags makes n bags in which nothing is wrong.
func manyBags(n int) []api.Bag { return slices.Repeat([]api.Bag{bag(1, "ann", 100, 99)}, n) }

// bagErrors is lists of bags with something wrong.
func bagErrors() map[string]struct {
	l    []api.Bag
	want api.Errno
} {
	good, most := bag(1, "ann", 5, 5), api.MaxBagCents
	return map[string]struct {
		l    []api.Bag
		want api.Errno
	}{
		"too many":                    {manyBags(501), api.ErrLarge},
		"large before others":         {make([]api.Bag, 501), api.ErrLarge},
		"day below 0":                 {[]api.Bag{good, bag(-1, "ann", 5, 5)}, api.ErrArg},
		"day after all":               {[]api.Bag{bag(api.MaxDay+1, "ann", 5, 5)}, api.ErrArg},
		"nobody":                      {[]api.Bag{good, bag(1, "", 5, 5)}, api.ErrName},
		"who is no key":               {[]api.Bag{bag(1, "Ann", 5, 5)}, api.ErrName},
		"meter below 0":               {[]api.Bag{bag(1, "ann", -1, 5)}, api.ErrArg},
		"meter too great":             {[]api.Bag{bag(1, "ann", most+1, 5)}, api.ErrArg},
		"found below 0":               {[]api.Bag{good, good, bag(1, "ann", 5, -1)}, api.ErrArg},
		"found too great":             {[]api.Bag{bag(1, "ann", 5, most+1)}, api.ErrArg},
		"least ints":                  {[]api.Bag{bag(1, "ann", math.MinInt, math.MinInt)}, api.ErrArg},
		"greatest ints":               {[]api.Bag{bag(1, "ann", math.MaxInt, math.MaxInt)}, api.ErrArg},
		"day before who":              {[]api.Bag{bag(-1, "", 5, 5)}, api.ErrArg},
		"who before meter":            {[]api.Bag{bag(1, "", -1, 5)}, api.ErrName},
		"who before found":            {[]api.Bag{bag(1, "", 5, -1)}, api.ErrName},
		"the first one's found first": {[]api.Bag{bag(1, "ann", 5, -1), bag(1, "", 5, 5)}, api.ErrArg},
		"the first one's who first":   {[]api.Bag{bag(1, "", 5, 5), bag(-1, "ann", 5, 5)}, api.ErrName},
	}
}

// P7.1: what is wrong with bags, asked by all functions with bags.
func TestBagErrors(t *testing.T) {
	for name, x := range bagErrors() {
		if e := till.CheckBags(x.l); e != x.want {
			t.Errorf("%s: %d", name, e)
		}
		if o, e := till.Off(x.l); len(o) != 0 || e != x.want {
			t.Errorf("%s: Off %v %d", name, o, e)
		}
		if sum, run, e := till.Drift(x.l, ""); sum != 0 || run != 0 || e != x.want {
			t.Errorf("%s: Drift %d %d %d", name, sum, run, e)
		}
		if s, e := till.Suspects(x.l, 0); len(s) != 0 || e != x.want {
			t.Errorf("%s: Suspects %v %d", name, s, e)
		}
	}
	for _, l := range [][]api.Bag{
		nil, {}, manyBags(500), {bag(0, "a", 0, 0), bag(api.MaxDay, "b-_9", api.MaxBagCents, api.MaxBagCents)},
		{bag(9, "ann", 1, 2), bag(3, "bo", 1, 2), bag(3, "bo", 1, 2)}, // days need no order
	} {
		if e := till.CheckBags(l); e != api.OK {
			t.Errorf("%d bags: %d", len(l), e)
		}
	}
}

// P7.1: Off is Found minus Meter.
func TestOff(t *testing.T) {
	l := []api.Bag{bag(1, "ann", 100, 90), bag(2, "bo", 50, 55), bag(0, "ann", 7, 7), bag(3, "cy", api.MaxBagCents, 0), bag(3, "cy", 0, api.MaxBagCents)}
	if o, e := till.Off(l); !slices.Equal(o, []int{-10, 5, 0, -api.MaxBagCents, api.MaxBagCents}) || e != api.OK {
		t.Error(o, e)
	}
	if o, e := till.Off(nil); len(o) != 0 || e != api.OK {
		t.Error(o, e)
	}
}

// P7.1: Drift of a person.
func TestDrift(t *testing.T) {
	for name, x := range map[string]struct {
		l        []api.Bag
		sum, run int
	}{
		"no bags":                 {nil, 0, 0},
		"bags of others":          {offsOf("bo", -1, -2), 0, 0},
		"one":                     {offsOf("ann", -3), -3, 1},
		"one with nothing wrong":  {offsOf("ann", 0), 0, 0},
		"one with too much":       {offsOf("ann", 4), 4, 0},
		"0 ends a run":            {offsOf("ann", -1, -2, 0, -3), -6, 2},
		"too much ends a run":     {offsOf("ann", -1, 9, -2, -3), 3, 2},
		"the longest is first":    {offsOf("ann", -1, -1, -1, 0, -1, -1), -5, 3},
		"the longest is last":     {offsOf("ann", -1, 0, -1, -1, 0, -1, -1, -1), -6, 3},
		"the longest is between":  {offsOf("ann", 5, -1, -1, -1, -1, 5, -1), 5, 4},
		"others do not end a run": {slices.Concat(offsOf("ann", -1, -1), offsOf("bo", 0, 9), offsOf("ann", -1), offsOf("bo", -7), offsOf("ann", 2)), -1, 3},
		"in the order of the list": {
			[]api.Bag{bag(9, "ann", 5, 4), bag(3, "ann", 5, 6), bag(8, "ann", 5, 4)}, -1, 1,
		},
		"as many as can be": {slices.Repeat([]api.Bag{bag(1, "ann", api.MaxBagCents, 0)}, 500), -500 * api.MaxBagCents, 500},
	} {
		if sum, run, e := till.Drift(x.l, "ann"); sum != x.sum || run != x.run || e != api.OK {
			t.Errorf("%s: %d %d %d", name, sum, run, e)
		}
	}
	for _, who := range []string{"", "Ann", "a b", "9", "ann\n"} {
		if sum, run, e := till.Drift(offsOf("ann", -1), who); sum != 0 || run != 0 || e != api.ErrName {
			t.Errorf("%q: %d %d %d", who, sum, run, e)
		}
	}
}

// P7.1: Chance where its value is known.
func TestChance(t *testing.T) {
	for _, x := range []struct {
		n, k int
		want api.Fraction
	}{
		{0, 0, api.Fraction{Num: 1, Den: 1}},
		{1, 0, api.Fraction{Num: 1, Den: 1}},
		{1, 1, api.Fraction{Num: 1, Den: 2}},
		{2, 1, api.Fraction{Num: 3, Den: 4}},
		{3, 2, api.Fraction{Num: 1, Den: 2}},
		{4, 3, api.Fraction{Num: 5, Den: 16}},
		{4, 2, api.Fraction{Num: 11, Den: 16}},
		{10, 9, api.Fraction{Num: 11, Den: 1_024}},
		{59, 30, api.Fraction{Num: 1, Den: 2}},
		{60, 0, api.Fraction{Num: 1, Den: 1}},
		{60, 1, api.Fraction{Num: 1<<60 - 1, Den: 1 << 60}},
		{60, 59, api.Fraction{Num: 61, Den: 1 << 60}},
		{60, 60, api.Fraction{Num: 1, Den: 1 << 60}},
	} {
		if f, e := till.Chance(x.n, x.k); f != x.want || e != api.OK {
			t.Errorf("%d of %d: %v %d", x.k, x.n, f, e)
		}
	}
	for _, x := range [][2]int{
		{-1, 0}, {-1, -1}, {61, 0}, {61, 61}, {0, 1}, {0, -1}, {5, 6}, {5, -1}, {60, 61},
		{math.MinInt, math.MinInt}, {math.MaxInt, 3}, {3, math.MinInt}, {3, math.MaxInt}, {math.MaxInt, math.MaxInt},
	} {
		if f, e := till.Chance(x[0], x[1]); f != (api.Fraction{}) || e != api.ErrArg {
			t.Errorf("%v: %v %d", x, f, e)
		}
	}
}

// P7.1: Chance against all results of few coins, and exact numbers for many.
func TestChanceOfAll(t *testing.T) {
	for n := range 13 {
		for k := range n + 1 {
			ways := 0
			for result := range 1 << n {
				if bits.OnesCount(uint(result)) >= k {
					ways++
				}
			}
			f, e := till.Chance(n, k)
			if f.Num<<n != ways*f.Den || e != api.OK {
				t.Errorf("%d of %d: %v %d", k, n, f, e)
			}
		}
	}
	for n := range 61 {
		sum := new(big.Int)
		for k := n; k >= 0; k-- {
			sum.Add(sum, new(big.Int).Binomial(int64(n), int64(k)))
			want := new(big.Rat).SetFrac(sum, new(big.Int).Lsh(big.NewInt(1), uint(n)))
			f, e := till.Chance(n, k)
			if got := fmt.Sprintf("%d/%d", f.Num, f.Den); got != want.String() || e != api.OK { // a Rat is in lowest terms
				t.Errorf("%d of %d: %s, not %s", k, n, got, want)
			}
		}
	}
}

// P7.1: who is suspected.
func TestSuspects(t *testing.T) {
	ones, twos := slices.Repeat([]int{1}, 30), slices.Repeat([]int{-2}, 30)
	for name, x := range map[string]struct {
		l     []api.Bag
		least int
		want  []api.Named
	}{
		"no bags":                  {nil, 1, nil},
		"nothing wrong":            {offsOf("ann", 0, 0, 0), 1, nil},
		"too much":                 {offsOf("ann", 5, 4), 1, nil},
		"one":                      {offsOf("ann", -5), 1, []api.Named{named("ann", -5)}},
		"one in two":               {offsOf("ann", -5), 2, []api.Named{named("ann", -5)}},
		"one is not one in three":  {offsOf("ann", -5), 3, nil},
		"two in a row":             {offsOf("ann", -5, -1), 4, []api.Named{named("ann", -6)}},
		"two are not one in five":  {offsOf("ann", -5, -1), 5, nil},
		"bags of 0 do not count":   {offsOf("ann", 0, -5, 0, -1, 0), 4, []api.Named{named("ann", -6)}},
		"3 of 4 are 5 of 16":       {offsOf("ann", -5, 1, -1, -1), 3, []api.Named{named("ann", -6)}},
		"3 of 4 are not 1 in 4":    {offsOf("ann", -5, 1, -1, -1), 4, nil},
		"more than it lacks":       {offsOf("ann", -1, -1, -1, -1, 5), 1, nil},
		"as much as it lacks":      {offsOf("ann", -1, -1, -1, -1, 4), 1, nil},
		"a cent less":              {offsOf("ann", -1, -1, -1, -1, 3), 5, []api.Named{named("ann", -1)}},
		"lacks much, but rarely":   {offsOf("ann", 1, 1, 1, -90), 1, []api.Named{named("ann", -87)}},
		"and not by chance":        {offsOf("ann", 1, 1, 1, -90), 2, nil},
		"sorted by key":            {slices.Concat(offsOf("cy", -1), offsOf("a", -2), offsOf("b", 3), offsOf("a-", -4), offsOf("a", -2)), 2, []api.Named{named("a", -4), named("a-", -4), named("cy", -1)}},
		"each one's own bags":      {slices.Concat(offsOf("ann", -1), offsOf("bo", 1), offsOf("ann", -1), offsOf("bo", -9)), 4, []api.Named{named("ann", -2)}},
		"20 in a row":              {offsOf("ann", slices.Repeat([]int{-1}, 20)...), 1_000_000, []api.Named{named("ann", -20)}},
		"19 are not one in 10^6":   {offsOf("ann", slices.Repeat([]int{-1}, 19)...), 1_000_000, nil},
		"0 is none of the last 60": {offsOf("ann", slices.Repeat([]int{-1, 0}, 60)...), 1_000_000, []api.Named{named("ann", -60)}},
		"half of the last 60":      {offsOf("ann", slices.Concat(ones, twos)...), 1, []api.Named{named("ann", -30)}},
		"only the last 60 count":   {offsOf("ann", slices.Concat(slices.Repeat([]int{-1}, 200), ones, twos)...), 2, nil},
		"with 0 between them":      {offsOf("ann", slices.Concat(ones, []int{0, 0, 0}, twos, twos)...), 1_000_000, []api.Named{named("ann", -90)}},
		"the sum is of all bags":   {offsOf("ann", append([]int{61}, slices.Repeat([]int{-1}, 60)...)...), 1, nil},
		"the sum of all, below 0":  {offsOf("ann", append([]int{-61}, slices.Repeat([]int{1}, 60)...)...), 1, []api.Named{named("ann", -1)}},
		"a bag before the last 60": {offsOf("ann", append([]int{-61}, slices.Repeat([]int{1}, 60)...)...), 2, nil},
		"as much as can be":        {slices.Repeat([]api.Bag{bag(1, "ann", api.MaxBagCents, 0)}, 500), 1_000_000, []api.Named{named("ann", -500*api.MaxBagCents)}},
	} {
		if s, e := till.Suspects(x.l, x.least); !slices.Equal(s, x.want) || e != api.OK {
			t.Errorf("%s: %v %d", name, s, e)
		}
	}
	for _, least := range []int{0, -1, 1_000_001, math.MinInt, math.MaxInt} {
		if s, e := till.Suspects(offsOf("ann", -1), least); len(s) != 0 || e != api.ErrArg {
			t.Errorf("%d: %v %d", least, s, e)
		}
	}
}

// P7.1: Drift and Suspects of some bags, person by person.
func TestBagsOfSome(t *testing.T) {
	r := rand.New(rand.NewSource(71))
	suspected := 0
	for range 3_000 {
		var l []api.Bag
		chance := r.Intn(6)
		for range r.Intn(200) {
			n := r.Intn(5)
			if r.Intn(6) < chance {
				n = -n
			}
			l = append(l, bag(r.Intn(9), []string{"ann", "bo", "cy"}[r.Intn(3)], 10, 10+n))
		}
		least := 1 << r.Intn(15)
		var want []api.Named
		for _, who := range []string{"ann", "bo", "cy"} {
			sum, run, longest := 0, 0, 0
			var signs []bool
			for _, b := range l {
				if b.Who != who {
					continue
				}
				n := b.Found - b.Meter
				sum += n
				if n != 0 {
					signs = append(signs, n < 0)
				}
				run = (run + 1) * map[bool]int{true: 1}[n < 0]
				longest = max(longest, run)
			}
			if s, n, e := till.Drift(l, who); s != sum || n != longest || e != api.OK {
				t.Fatal(l, who, s, n, e)
			}
			if len(signs) > 60 {
				signs = signs[len(signs)-60:]
			}
			lacking := 0
			for _, b := range signs {
				lacking += map[bool]int{true: 1}[b]
			}
			f, e := till.Chance(len(signs), lacking)
			if e != api.OK {
				t.Fatal(e)
			}
			if sum < 0 && big.NewRat(int64(f.Num), int64(f.Den)).Cmp(big.NewRat(1, int64(least))) <= 0 {
				want = append(want, named(who, sum))
			}
		}
		s, e := till.Suspects(l, least)
		if !slices.Equal(s, want) || e != api.OK {
			t.Fatal(l, least, s, want, e)
		}
		suspected += len(s)
	}
	if suspected < 500 {
		t.Error("only", suspected)
	}
}
