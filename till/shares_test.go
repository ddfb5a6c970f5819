package till_test

import (
	"fmt"
	"math"
	"math/big"
	"math/rand"
	"slices"
	"testing"

	"coilrack/api"
	"coilrack/meter"
	"coilrack/till"
)

func tier(from, rate int) api.Tier { return api.Tier{From: from, Rate: rate} }

func charge(rate, gross int) api.Charge { return api.Charge{Rate: rate, Gross: gross} }

func taxed(rate, gross, net, tax int) api.Taxed {
	return api.Taxed{Rate: rate, Gross: gross, Net: net, Tax: tax}
}

// example is the tiers of the chapter's example.
func example() []api.Tier { return []api.Tier{tier(0, 1_000), tier(10_000, 2_000)} }

// manyTiers makes n tiers in which nothing is wrong.
func manyTiers(n int) []api.Tier {
	var l []api.Tier
	for i := range n {
		l = append(l, tier(1_000*i, 100*i))
	}
	return l
}

// keys makes n keys, sorted.
func keys(n int) []string {
	var l []string
	for i := range n {
		l = append(l, fmt.Sprintf("k%03d", i))
	}
	return l
}

// manyPartners makes n partners with these weights.
func manyPartners(n, weight int) []api.Named {
	var l []api.Named
	for _, k := range keys(n) {
		l = append(l, named(k, weight))
	}
	return l
}

// P7.2: what is wrong with tiers, which Commission asks first.
func TestTierErrors(t *testing.T) {
	for name, x := range map[string]struct {
		l    []api.Tier
		want api.Errno
	}{
		"none":                        {nil, api.ErrNone},
		"an empty list":               {[]api.Tier{}, api.ErrNone},
		"too many":                    {manyTiers(21), api.ErrLarge},
		"large before others":         {slices.Repeat([]api.Tier{tier(-1, -1)}, 21), api.ErrLarge},
		"does not begin at 0":         {[]api.Tier{tier(1, 5), tier(2, 5)}, api.ErrArg},
		"begins below 0":              {[]api.Tier{tier(-1, 5)}, api.ErrArg},
		"from below 0":                {[]api.Tier{tier(0, 5), tier(-1, 5)}, api.ErrArg},
		"from too great":              {[]api.Tier{tier(0, 5), tier(api.MaxCents+1, 5)}, api.ErrArg},
		"as the one before":           {[]api.Tier{tier(0, 5), tier(0, 5)}, api.ErrOrder},
		"less than the one before":    {[]api.Tier{tier(0, 5), tier(9, 5), tier(8, 6)}, api.ErrOrder},
		"rate below 0":                {[]api.Tier{tier(0, -1)}, api.ErrArg},
		"rate too great":              {[]api.Tier{tier(0, 5), tier(9, 10_001)}, api.ErrArg},
		"least ints":                  {[]api.Tier{tier(0, 5), tier(math.MinInt, math.MinInt)}, api.ErrArg},
		"greatest ints":               {[]api.Tier{tier(0, 5), tier(math.MaxInt, math.MaxInt)}, api.ErrArg},
		"order before rate":           {[]api.Tier{tier(0, 5), tier(0, -1)}, api.ErrOrder},
		"range before order":          {[]api.Tier{tier(0, 5), tier(-1, 5), tier(0, 5)}, api.ErrArg},
		"the first one first":         {[]api.Tier{tier(0, 10_001), tier(0, 5)}, api.ErrArg},
		"the first from before rates": {[]api.Tier{tier(7, 10_001), tier(7, 5)}, api.ErrArg},
	} {
		if e := till.CheckTiers(x.l); e != x.want {
			t.Errorf("%s: %d", name, e)
		}
		if n, e := till.Commission(x.l, -1); n != 0 || e != x.want {
			t.Errorf("%s: Commission %d %d", name, n, e)
		}
	}
	for _, l := range [][]api.Tier{manyTiers(1), manyTiers(20), {tier(0, 0)}, {tier(0, 10_000), tier(1, 0), tier(api.MaxCents, 10_000)}} {
		if e := till.CheckTiers(l); e != api.OK {
			t.Errorf("%v: %d", l, e)
		}
	}
	for _, sales := range []int{-1, api.MaxCents + 1, math.MinInt, math.MaxInt} {
		if n, e := till.Commission(example(), sales); n != 0 || e != api.ErrArg {
			t.Errorf("%d: %d %d", sales, n, e)
		}
	}
}

// P7.2: Commission.
func TestCommission(t *testing.T) {
	half := []api.Tier{tier(0, 5_000)}
	for _, x := range []struct {
		l           []api.Tier
		sales, want int
	}{
		{example(), 0, 0},
		{example(), 15_000, 2_000},
		{example(), 10_000, 1_000},
		{example(), 10_005, 1_001},
		{example(), 9_999, 1_000}, // 999.9
		{example(), 4, 0},
		{example(), 5, 0}, // 0.5
		{example(), 6, 1},
		{example(), 15, 2}, // 1.5
		{half, 1, 0}, {half, 3, 2}, {half, 5, 2}, {half, 7, 4},
		{[]api.Tier{tier(0, 0)}, api.MaxCents, 0},
		{[]api.Tier{tier(0, 10_000)}, api.MaxCents, api.MaxCents},
		{[]api.Tier{tier(0, 10_000), tier(api.MaxCents, 0)}, api.MaxCents, api.MaxCents},
		{[]api.Tier{tier(0, 0), tier(api.MaxCents-1, 10_000)}, api.MaxCents, 1},
		{[]api.Tier{tier(0, 2_000), tier(100, 1_000), tier(200, 0), tier(300, 10_000)}, 250, 30},
		{[]api.Tier{tier(0, 2_000), tier(100, 1_000), tier(200, 0), tier(300, 10_000)}, 301, 31},
		{[]api.Tier{tier(0, 4), tier(1_000, 6)}, 2_000, 1}, // 0.4 and 0.6: the whole sum is rounded
		{[]api.Tier{tier(0, 5), tier(1_000, 5)}, 2_000, 1}, // 0.5 and 0.5
		{[]api.Tier{tier(0, 3_333), tier(7, 6_667)}, 9, 4}, // 2.3331 and 1.3334
	} {
		if n, e := till.Commission(x.l, x.sales); n != x.want || e != api.OK {
			t.Errorf("%v %d: %d %d", x.l, x.sales, n, e)
		}
	}
}

// P7.2: Commission cent by cent, and that it does not fall with sales.
func TestCommissionOfSome(t *testing.T) {
	r := rand.New(rand.NewSource(72))
	for range 200 {
		l := []api.Tier{tier(0, r.Intn(10_001))}
		for len(l) < 1+r.Intn(20) {
			l = append(l, tier(l[len(l)-1].From+1+r.Intn(40), r.Intn(10_001)))
		}
		num, last := 0, 0
		for sales := range 300 {
			n, e := till.Commission(l, sales)
			want, e2 := till.Even(num, 10_000)
			if n != want || n < last || e != api.OK || e2 != api.OK {
				t.Fatal(l, sales, n, want, e, e2)
			}
			last = n
			for _, x := range slices.Backward(l) { // the next cent
				if x.From <= sales {
					num += x.Rate
					break
				}
			}
		}
	}
}

// P7.2: Even.
func TestEven(t *testing.T) {
	const most = 1_000_000_000_000_000
	for _, x := range [][3]int{
		{0, 1, 0}, {0, 1_000_000_000, 0}, {1, 2, 0}, {3, 2, 2}, {5, 2, 2}, {7, 2, 4}, {-1, 2, 0}, {-3, 2, -2}, {-5, 2, -2}, {-7, 2, -4},
		{7, 3, 2}, {8, 3, 3}, {-7, 3, -2}, {-8, 3, -3}, {1, 3, 0}, {2, 3, 1}, {-1, 3, 0}, {-2, 3, -1}, {6, 3, 2}, {-6, 3, -2},
		{5, 10, 0}, {15, 10, 2}, {25, 10, 2}, {-5, 10, 0}, {-15, 10, -2}, {-25, 10, -2}, {26, 10, 3}, {-26, 10, -3}, {24, 10, 2},
		{most, 1, most}, {-most, 1, -most}, {most - 1, 1, most - 1}, {most, 1_000_000_000, 1_000_000}, {-most, 1_000_000_000, -1_000_000},
		{500_000_000, 1_000_000_000, 0}, {500_000_001, 1_000_000_000, 1}, {1_500_000_000, 1_000_000_000, 2}, {-500_000_001, 1_000_000_000, -1},
		{most - 1, 2, most / 2}, {1 - most, 2, -most / 2},
	} {
		if n, e := till.Even(x[0], x[1]); n != x[2] || e != api.OK {
			t.Errorf("%v: %d %d", x, n, e)
		}
	}
	for _, x := range [][2]int{
		{most + 1, 1}, {-most - 1, 1}, {1, 0}, {1, -1}, {0, 0}, {1, 1_000_000_001}, {math.MinInt, 1}, {math.MaxInt, 1}, {1, math.MinInt}, {1, math.MaxInt},
	} {
		if n, e := till.Even(x[0], x[1]); n != 0 || e != api.ErrArg {
			t.Errorf("%v: %d %d", x, n, e)
		}
	}
}

// P7.2: no whole number is nearer than Even, and of two it is the even one.
func TestEvenOfSome(t *testing.T) {
	r := rand.New(rand.NewSource(73))
	for i := range 20_000 {
		num, den := r.Intn(401)-200, 1+r.Intn(40)
		if i%2 == 0 {
			num, den = r.Intn(2_000_000_000_000_001)-1_000_000_000_000_000, 1+r.Intn(1_000_000_000)
		}
		n, e := till.Even(num, den)
		if e != api.OK {
			t.Fatal(num, den, e)
		}
		far := new(big.Rat).Sub(big.NewRat(int64(num), int64(den)), big.NewRat(int64(n), 1))
		if c := far.Abs(far).Cmp(big.NewRat(1, 2)); c > 0 || c == 0 && n%2 != 0 {
			t.Fatal(num, den, n)
		}
	}
}

// P7.2: Net.
func TestNet(t *testing.T) {
	for _, x := range [][4]int{
		{119, 1_900, 100, 19}, {0, 1_900, 0, 0}, {0, 0, 0, 0}, {119, 0, 119, 0}, {100, 10_000, 50, 50}, {1, 10_000, 0, 1}, {3, 10_000, 2, 1}, {5, 10_000, 2, 3},
		{100, 700, 93, 7}, {1, 1_900, 1, 0}, {250, 1_900, 210, 40}, {107, 700, 100, 7}, {10_001, 1, 10_000, 1}, {10_000, 1, 9_999, 1}, {5_000, 1, 5_000, 0},
		{api.MaxCents, 0, api.MaxCents, 0}, {api.MaxCents, 10_000, api.MaxCents / 2, api.MaxCents / 2}, {api.MaxCents, 1_900, 840_336_134, 159_663_866},
	} {
		if net, tax, e := till.Net(x[0], x[1]); net != x[2] || tax != x[3] || e != api.OK {
			t.Errorf("%v: %d %d %d", x, net, tax, e)
		}
	}
	for _, x := range [][2]int{
		{-1, 5}, {api.MaxCents + 1, 5}, {5, -1}, {5, 10_001}, {math.MinInt, 5}, {math.MaxInt, 5}, {5, math.MinInt}, {5, math.MaxInt},
	} {
		if net, tax, e := till.Net(x[0], x[1]); net != 0 || tax != 0 || e != api.ErrArg {
			t.Errorf("%v: %d %d %d", x, net, tax, e)
		}
	}
}

// P7.2: Taxes.
func TestTaxes(t *testing.T) {
	full := slices.Repeat([]api.Charge{charge(1_900, api.MaxBagCents)}, 500)
	for name, x := range map[string]struct {
		l    []api.Charge
		want []api.Taxed
	}{
		"none":               {nil, nil},
		"one":                {[]api.Charge{charge(1_900, 119)}, []api.Taxed{taxed(1_900, 119, 100, 19)}},
		"nothing":            {[]api.Charge{charge(700, 0)}, []api.Taxed{taxed(700, 0, 0, 0)}},
		"no tax":             {[]api.Charge{charge(0, 7)}, []api.Taxed{taxed(0, 7, 7, 0)}},
		"by rate":            {[]api.Charge{charge(1_900, 19), charge(700, 107), charge(1_900, 100)}, []api.Taxed{taxed(700, 107, 100, 7), taxed(1_900, 119, 100, 19)}},
		"rates rise":         {[]api.Charge{charge(10_000, 2), charge(9, 0), charge(0, 1), charge(700, 0)}, []api.Taxed{taxed(0, 1, 1, 0), taxed(9, 0, 0, 0), taxed(700, 0, 0, 0), taxed(10_000, 2, 1, 1)}},
		"the sum is rounded": {[]api.Charge{charge(10_000, 1), charge(10_000, 1)}, []api.Taxed{taxed(10_000, 2, 1, 1)}},
		"as much as can be":  {full, []api.Taxed{taxed(1_900, 5_000_000_000, 4_201_680_672, 798_319_328)}}, // more than Net takes
		"all without tax":    {slices.Repeat([]api.Charge{charge(0, api.MaxBagCents)}, 500), []api.Taxed{taxed(0, 5_000_000_000, 5_000_000_000, 0)}},
	} {
		if l, e := till.Taxes(x.l); !slices.Equal(l, x.want) || e != api.OK {
			t.Errorf("%s: %v %d", name, l, e)
		}
	}
	for name, x := range map[string]struct {
		l    []api.Charge
		want api.Errno
	}{
		"too many":            {append(full, charge(1, 1)), api.ErrLarge},
		"large before others": {slices.Repeat([]api.Charge{charge(-1, -1)}, 501), api.ErrLarge},
		"rate below 0":        {[]api.Charge{charge(1, 1), charge(-1, 1)}, api.ErrArg},
		"rate too great":      {[]api.Charge{charge(10_001, 1)}, api.ErrArg},
		"gross below 0":       {[]api.Charge{charge(1, -1), charge(1, 1)}, api.ErrArg},
		"gross too great":     {[]api.Charge{charge(1, 1), charge(1, api.MaxBagCents+1)}, api.ErrArg},
		"least ints":          {[]api.Charge{charge(math.MinInt, math.MinInt)}, api.ErrArg},
		"greatest ints":       {[]api.Charge{charge(1, math.MaxInt), charge(1, math.MaxInt)}, api.ErrArg},
	} {
		if l, e := till.Taxes(x.l); len(l) != 0 || e != x.want {
			t.Errorf("%s: %v %d", name, l, e)
		}
	}
}

// P7.2: Taxes of some charges, rate by rate.
func TestTaxesOfSome(t *testing.T) {
	r := rand.New(rand.NewSource(74))
	for range 1_000 {
		var l []api.Charge
		for range r.Intn(12) {
			l = append(l, charge(500*r.Intn(5), r.Intn(1_000)))
		}
		var want []api.Taxed
		for rate := 0; rate <= 2_000; rate += 500 {
			sum, some := 0, false
			for _, c := range l {
				if c.Rate == rate {
					sum, some = sum+c.Gross, true
				}
			}
			net, tax, e := till.Net(sum, rate)
			if e != api.OK {
				t.Fatal(e)
			}
			if some {
				want = append(want, taxed(rate, sum, net, tax))
			}
		}
		if got, e := till.Taxes(l); !slices.Equal(got, want) || e != api.OK {
			t.Fatal(l, got, want, e)
		}
	}
}

// P7.2: Shares.
func TestShares(t *testing.T) {
	for name, x := range map[string]struct {
		total int
		l     []api.Named
		want  []int
	}{
		"the least key first":       {10, []api.Named{named("b", 1), named("a", 1), named("c", 1)}, []int{3, 4, 3}},
		"two of three":              {11, []api.Named{named("c", 1), named("b", 1), named("a", 1)}, []int{3, 4, 4}},
		"bytes are compared":        {1, []api.Named{named("a_", 1), named("a", 1), named("a-", 1)}, []int{0, 1, 0}},
		"a dash before a digit":     {1, []api.Named{named("a0", 1), named("a-", 1)}, []int{0, 1}},
		"one":                       {7, []api.Named{named("a", 5)}, []int{7}},
		"nothing":                   {0, []api.Named{named("b", 5), named("a", 1)}, []int{0, 0}},
		"the greatest rest first":   {10, []api.Named{named("c", 3), named("b", 5), named("a", 4)}, []int{3, 4, 3}}, // 2.5, 4.17, 3.33
		"a weight of 0":             {3, []api.Named{named("b", 1), named("a", 0), named("c", 1)}, []int{2, 0, 1}},
		"as many as can be":         {51, manyPartners(50, 1_000_000), append([]int{2}, slices.Repeat([]int{1}, 49)...)},
		"as much as can be":         {1_000_000_000, []api.Named{named("z", 1_000_000), named("y", 0)}, []int{1_000_000_000, 0}},
		"in the order of the list":  {60, []api.Named{named("z", 3), named("m", 1), named("a", 2)}, []int{30, 10, 20}},
		"equal rests, the less one": {2, []api.Named{named("b", 3), named("a", 1)}, []int{1, 1}}, // 1.5, 0.5
		"equal rests, the other":    {2, []api.Named{named("b", 1), named("a", 3)}, []int{0, 2}}, // 0.5, 1.5
	} {
		if s, e := till.Shares(x.total, x.l); !slices.Equal(s, x.want) || e != api.OK {
			t.Errorf("%s: %v %d", name, s, e)
		}
	}
}

// P7.2: what Shares refuses, and in which order.
func TestSharesErrors(t *testing.T) {
	a, b := named("a", 1), named("b", 1)
	for name, x := range map[string]struct {
		total int
		l     []api.Named
		want  api.Errno
	}{
		"too many":              {5, manyPartners(51, 1), api.ErrLarge},
		"large before others":   {-1, make([]api.Named, 51), api.ErrLarge},
		"no key":                {5, []api.Named{a, named("", 1)}, api.ErrName},
		"another string":        {5, []api.Named{named("A", 1), b}, api.ErrName},
		"twice":                 {5, []api.Named{b, a, b}, api.ErrTwice},
		"twice, other weights":  {5, []api.Named{a, named("a", 2)}, api.ErrTwice},
		"name before twice":     {5, []api.Named{named("", 1), a, a}, api.ErrName},
		"twice before name":     {5, []api.Named{a, a, named("", 1)}, api.ErrTwice},
		"keys before the total": {-1, []api.Named{a, named("?", 1)}, api.ErrName},
		"twice before weights":  {5, []api.Named{named("a", -1), a}, api.ErrTwice},
		"total below 0":         {-1, []api.Named{a, b}, api.ErrArg},
		"total too great":       {1_000_000_001, []api.Named{a, b}, api.ErrArg},
		"least total":           {math.MinInt, []api.Named{a, b}, api.ErrArg},
		"greatest total":        {math.MaxInt, []api.Named{a, b}, api.ErrArg},
		"total before none":     {-1, nil, api.ErrArg},
		"no partners":           {5, nil, api.ErrNone},
		"no partners, nothing":  {0, []api.Named{}, api.ErrNone},
		"weight below 0":        {5, []api.Named{a, named("b", -1)}, api.ErrArg},
		"weight too great":      {5, []api.Named{named("b", 1_000_001), a}, api.ErrArg},
		"least weight":          {5, []api.Named{a, named("b", math.MinInt)}, api.ErrArg},
		"greatest weights":      {5, []api.Named{named("a", math.MaxInt), named("b", math.MaxInt)}, api.ErrArg},
		"all weights 0":         {5, []api.Named{named("a", 0), named("b", 0)}, api.ErrArg},
	} {
		if s, e := till.Shares(x.total, x.l); len(s) != 0 || e != x.want {
			t.Errorf("%s: %v %d", name, s, e)
		}
	}
}

// P7.2: shares are meter.Share's by Key, add up to the total, and do not depend on the order of partners.
func TestSharesOfSome(t *testing.T) {
	r := rand.New(rand.NewSource(75))
	for range 2_000 {
		l, total := manyPartners(1+r.Intn(9), 1), r.Intn(50)
		weights := make([]int, len(l))
		for i := range l {
			l[i].Many = r.Intn(4) + 1/(1+i) // the first one is not 0
			weights[i] = l[i].Many
		}
		parts, e := meter.Share(total, weights)
		if e != api.OK {
			t.Fatal(e)
		}
		want := map[string]int{}
		for i, p := range l {
			want[p.Key] = parts[i]
		}
		r.Shuffle(len(l), func(i, j int) { l[i], l[j] = l[j], l[i] })
		s, e := till.Shares(total, l)
		if len(s) != len(l) || e != api.OK {
			t.Fatal(l, s, e)
		}
		sum := 0
		for i, n := range s {
			sum += n
			if n != want[l[i].Key] {
				t.Fatal(total, l, s)
			}
		}
		if sum != total {
			t.Fatal(total, l, s)
		}
	}
}
