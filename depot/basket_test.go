package depot_test

import (
	"fmt"
	"math"
	"math/rand"
	"slices"
	"sort"
	"testing"

	"coilrack/api"
	"coilrack/depot"
)

func ware(key string, price int, group string) api.Ware {
	return api.Ware{Key: key, Price: price, Group: group}
}

func named(key string, many int) api.Named { return api.Named{Key: key, Many: many} }

func deal(key, group string, many, free int) api.Deal {
	return api.Deal{Key: key, Group: group, Many: many, Free: free}
}

// wares is what a market has.
func wares() []api.Ware {
	return []api.Ware{ware("bar", 50, "sweet"), ware("cake", 80, "sweet"), ware("milk", 0, "drink"), ware("nuts", 70, "salt"), ware("pie", 50, "sweet"), ware("water", 90, "drink")}
}

// deals is what a market makes free.
func deals() []api.Deal {
	return []api.Deal{deal("pair", "drink", 2, 1), deal("three", "sweet", 3, 1)}
}

// manyWares makes n wares of one group.
func manyWares(n int) []api.Ware {
	var l []api.Ware
	for i := range n {
		l = append(l, ware(fmt.Sprintf("w%06d", i), 100_000, "all"))
	}
	return l
}

// manyNamed makes n names of manyWares, with this many of each.
func manyNamed(n, many int) []api.Named {
	var l []api.Named
	for i := range n {
		l = append(l, named(fmt.Sprintf("w%06d", i), many))
	}
	return l
}

// manyDeals makes n deals for groups of their own.
func manyDeals(n int) []api.Deal {
	var l []api.Deal
	for i := range n {
		l = append(l, deal(fmt.Sprintf("d%06d", i), fmt.Sprintf("g%06d", n-i), 2, 1))
	}
	return l
}

// badWares is wares with their errors.
func badWares() map[string]struct {
	l    []api.Ware
	want api.Errno
} {
	good := ware("bar", 50, "sweet")
	return map[string]struct {
		l    []api.Ware
		want api.Errno
	}{
		"too many":                    {manyWares(api.MaxWares + 1), api.ErrLarge},
		"large before names":          {make([]api.Ware, api.MaxWares+1), api.ErrLarge},
		"no name":                     {[]api.Ware{ware("", 50, "sweet")}, api.ErrName},
		"no key":                      {[]api.Ware{good, ware("Cake", 50, "sweet")}, api.ErrName},
		"no group":                    {[]api.Ware{good, ware("cake", 50, "")}, api.ErrName},
		"a group that is no key":      {[]api.Ware{good, ware("cake", 50, "a b")}, api.ErrName},
		"equal":                       {[]api.Ware{good, ware("bar", 51, "salt")}, api.ErrOrder},
		"falling":                     {[]api.Ware{good, ware("apple", 50, "sweet")}, api.ErrOrder},
		"below 0":                     {[]api.Ware{good, ware("cake", -1, "sweet")}, api.ErrArg},
		"too dear":                    {[]api.Ware{ware("bar", 100_001, "sweet")}, api.ErrArg},
		"the least int":               {[]api.Ware{ware("bar", math.MinInt, "sweet")}, api.ErrArg},
		"the greatest int":            {[]api.Ware{ware("bar", math.MaxInt, "sweet")}, api.ErrArg},
		"group before order":          {[]api.Ware{good, ware("apple", 50, "")}, api.ErrName},
		"order before price":          {[]api.Ware{good, ware("bar", -1, "sweet")}, api.ErrOrder},
		"the first one's price first": {[]api.Ware{ware("bar", -1, "sweet"), ware("", 50, "sweet")}, api.ErrArg},
		"the first one's order first": {[]api.Ware{good, good, ware("", -1, "")}, api.ErrOrder},
	}
}

// P8.4: what is wrong with wares is asked first by all functions with them.
func TestWareErrors(t *testing.T) {
	for name, x := range badWares() {
		for _, b := range [][]api.Named{nil, {named("none", -1)}, make([]api.Named, 101)} {
			if e := depot.CheckBasket(x.l, b); e != x.want {
				t.Errorf("%s: CheckBasket %d, not %d", name, e, x.want)
			}
			if n, keys, e := depot.Price(x.l, deals(), b); n != 0 || len(keys) != 0 || e != x.want {
				t.Errorf("%s: Price %d %q %d, not %d", name, n, keys, e, x.want)
			}
		}
		for _, d := range [][]api.Deal{nil, {{}}, make([]api.Deal, 21)} {
			if e := depot.CheckDeals(x.l, d); e != x.want {
				t.Errorf("%s: CheckDeals %d, not %d", name, e, x.want)
			}
			if n, keys, e := depot.Price(x.l, d, nil); n != 0 || len(keys) != 0 || e != x.want {
				t.Errorf("%s: Price %d %q %d, not %d", name, n, keys, e, x.want)
			}
		}
	}
	for name, l := range map[string][]api.Ware{
		"none": nil, "all": wares(), "200": manyWares(api.MaxWares),
		"prices at the bounds": {ware("a", 0, "b"), ware("b", 100_000, "b")},
		"longer keys":          {ware("a", 5, "a"), ware("a-", 5, "z"), ware("aa", 5, "a")},
	} {
		if e := depot.CheckBasket(l, nil); e != api.OK {
			t.Errorf("%s: CheckBasket %d", name, e)
		}
		if e := depot.CheckDeals(l, nil); e != api.OK {
			t.Errorf("%s: CheckDeals %d", name, e)
		}
		if n, keys, e := depot.Price(l, nil, nil); n != 0 || len(keys) != 0 || e != api.OK {
			t.Errorf("%s: Price %d %q %d", name, n, keys, e)
		}
	}
}

// P8.4: what is wrong with a basket, which Price asks behind the deals.
func TestCheckBasket(t *testing.T) {
	for name, x := range map[string]struct {
		l    []api.Ware
		b    []api.Named
		want api.Errno
	}{
		"nothing":                    {wares(), nil, api.OK},
		"one":                        {wares(), []api.Named{named("cake", 1)}, api.OK},
		"all":                        {wares(), []api.Named{named("bar", 1), named("cake", 100), named("milk", 2), named("nuts", 9), named("pie", 1), named("water", 5)}, api.OK},
		"100":                        {manyWares(200), manyNamed(100, 100), api.OK},
		"101":                        {manyWares(200), manyNamed(101, 1), api.ErrLarge},
		"large before names":         {wares(), make([]api.Named, 101), api.ErrLarge},
		"no such ware":               {wares(), []api.Named{named("apple", 1)}, api.ErrNone},
		"no name":                    {wares(), []api.Named{named("bar", 1), named("", 1)}, api.ErrNone},
		"no wares":                   {nil, []api.Named{named("bar", 1)}, api.ErrNone},
		"a group":                    {wares(), []api.Named{named("sweet", 1)}, api.ErrNone},
		"equal":                      {wares(), []api.Named{named("bar", 1), named("bar", 1)}, api.ErrOrder},
		"falling":                    {wares(), []api.Named{named("cake", 1), named("bar", 1)}, api.ErrOrder},
		"0":                          {wares(), []api.Named{named("bar", 0)}, api.ErrArg},
		"below 0":                    {wares(), []api.Named{named("bar", 1), named("pie", -1)}, api.ErrArg},
		"101 units":                  {wares(), []api.Named{named("bar", 101)}, api.ErrArg},
		"the least int":              {wares(), []api.Named{named("bar", math.MinInt)}, api.ErrArg},
		"the greatest int":           {wares(), []api.Named{named("bar", math.MaxInt)}, api.ErrArg},
		"none before order":          {wares(), []api.Named{named("cake", 1), named("apple", 1)}, api.ErrNone},
		"order before many":          {wares(), []api.Named{named("cake", 1), named("bar", 0)}, api.ErrOrder},
		"the first one's many first": {wares(), []api.Named{named("bar", 0), named("", 1)}, api.ErrArg},
		"the first one's none first": {wares(), []api.Named{named("", 1), named("bar", 0)}, api.ErrNone},
	} {
		if e := depot.CheckBasket(x.l, x.b); e != x.want {
			t.Errorf("%s: CheckBasket %d, not %d", name, e, x.want)
		}
		n, keys, e := depot.Price(x.l, deals(), x.b)
		if e != x.want || e != api.OK && (n != 0 || len(keys) != 0) {
			t.Errorf("%s: Price %d %q %d, not %d", name, n, keys, e, x.want)
		}
	}
}

// P8.4: what is wrong with deals, which Price asks before the basket.
func TestCheckDeals(t *testing.T) {
	good := deal("pair", "drink", 2, 1)
	for name, x := range map[string]struct {
		d    []api.Deal
		want api.Errno
	}{
		"none":                       {nil, api.OK},
		"two":                        {deals(), api.OK},
		"20":                         {manyDeals(20), api.OK},
		"the greatest set":           {[]api.Deal{deal("a", "b", 20, 19), deal("b", "a", 20, 1), deal("c", "c", 2, 1)}, api.OK},
		"a group without wares":      {[]api.Deal{deal("a", "nothing", 2, 1)}, api.OK},
		"21":                         {manyDeals(21), api.ErrLarge},
		"large before names":         {make([]api.Deal, 21), api.ErrLarge},
		"no name":                    {[]api.Deal{deal("", "drink", 2, 1)}, api.ErrName},
		"no key":                     {[]api.Deal{good, deal("three!", "sweet", 2, 1)}, api.ErrName},
		"no group":                   {[]api.Deal{good, deal("three", "", 2, 1)}, api.ErrName},
		"a group that is no key":     {[]api.Deal{good, deal("three", "Sweet", 2, 1)}, api.ErrName},
		"equal":                      {[]api.Deal{good, deal("pair", "sweet", 2, 1)}, api.ErrOrder},
		"falling":                    {[]api.Deal{good, deal("one", "sweet", 2, 1)}, api.ErrOrder},
		"a group twice":              {[]api.Deal{good, deal("three", "drink", 3, 1)}, api.ErrTwice},
		"the first one's group":      {[]api.Deal{good, deal("three", "sweet", 3, 1), deal("two", "drink", 3, 1)}, api.ErrTwice},
		"a set of 1":                 {[]api.Deal{good, deal("three", "sweet", 1, 1)}, api.ErrArg},
		"a set of 0":                 {[]api.Deal{deal("three", "sweet", 0, 0)}, api.ErrArg},
		"a set of 21":                {[]api.Deal{deal("three", "sweet", 21, 1)}, api.ErrArg},
		"none is free":               {[]api.Deal{deal("three", "sweet", 3, 0)}, api.ErrArg},
		"less is free":               {[]api.Deal{deal("three", "sweet", 3, -1)}, api.ErrArg},
		"all is free":                {[]api.Deal{deal("three", "sweet", 3, 3)}, api.ErrArg},
		"more is free":               {[]api.Deal{deal("three", "sweet", 3, 4)}, api.ErrArg},
		"the least ints":             {[]api.Deal{deal("three", "sweet", math.MinInt, math.MinInt)}, api.ErrArg},
		"the least set":              {[]api.Deal{deal("three", "sweet", math.MinInt, 1)}, api.ErrArg},
		"the greatest ints":          {[]api.Deal{deal("three", "sweet", math.MaxInt, math.MaxInt-1)}, api.ErrArg},
		"the greatest number":        {[]api.Deal{deal("three", "sweet", 3, math.MaxInt)}, api.ErrArg},
		"group before order":         {[]api.Deal{good, deal("one", "", 2, 1)}, api.ErrName},
		"order before twice":         {[]api.Deal{good, good}, api.ErrOrder},
		"twice before many":          {[]api.Deal{good, deal("three", "drink", 0, 1)}, api.ErrTwice},
		"the first one's many first": {[]api.Deal{deal("pair", "drink", 0, 1), deal("", "", 2, 1)}, api.ErrArg},
		"the first one's name first": {[]api.Deal{deal("", "drink", 2, 1), deal("three", "sweet", 0, 1)}, api.ErrName},
	} {
		if e := depot.CheckDeals(wares(), x.d); e != x.want {
			t.Errorf("%s: CheckDeals %d, not %d", name, e, x.want)
		}
		if x.want == api.OK {
			continue
		}
		for _, b := range [][]api.Named{nil, {named("none", 0)}, make([]api.Named, 101)} {
			if n, keys, e := depot.Price(wares(), x.d, b); n != 0 || len(keys) != 0 || e != x.want {
				t.Errorf("%s: Price %d %q %d, not %d", name, n, keys, e, x.want)
			}
		}
	}
}

// P8.4: what baskets cost.
func TestPrice(t *testing.T) {
	for name, x := range map[string]struct {
		d    []api.Deal
		b    []api.Named
		want int
		keys []string
	}{
		"nothing":                      {deals(), nil, 0, nil},
		"no deals":                     {nil, []api.Named{named("bar", 9), named("water", 2)}, 630, nil},
		"cake, cake, bar; bar":         {deals(), []api.Named{named("bar", 2), named("cake", 2), named("nuts", 1)}, 280, []string{"three"}},
		"no full set":                  {deals(), []api.Named{named("bar", 1), named("cake", 1), named("nuts", 5), named("water", 1)}, 570, nil},
		"both deals":                   {deals(), []api.Named{named("bar", 3), named("water", 2)}, 190, []string{"pair", "three"}},
		"the first deal":               {deals(), []api.Named{named("water", 3)}, 180, []string{"pair"}},
		"two sets":                     {deals(), []api.Named{named("bar", 3), named("cake", 3)}, 80 + 80 + 50 + 50, []string{"three"}},
		"the dearest are together":     {deals(), []api.Named{named("bar", 2), named("cake", 4)}, 80 + 80 + 80 + 50, []string{"three"}},
		"wares of one price":           {deals(), []api.Named{named("bar", 1), named("cake", 1), named("pie", 1)}, 130, []string{"three"}},
		"what cost nothing is free":    {deals(), []api.Named{named("milk", 1), named("water", 1)}, 90, []string{"pair"}},
		"another group's units":        {[]api.Deal{deal("three", "salt", 3, 1)}, []api.Named{named("bar", 2), named("nuts", 2)}, 240, nil},
		"two of three are free":        {[]api.Deal{deal("big", "sweet", 3, 2)}, []api.Named{named("bar", 2), named("cake", 2)}, 80 + 50, []string{"big"}},
		"two of three, two sets":       {[]api.Deal{deal("big", "sweet", 3, 2)}, []api.Named{named("bar", 5), named("cake", 2)}, 80 + 50 + 50, []string{"big"}},
		"19 of 20":                     {[]api.Deal{deal("big", "salt", 20, 19)}, []api.Named{named("nuts", 40)}, 140, []string{"big"}},
		"19 of 20, but 19":             {[]api.Deal{deal("big", "salt", 20, 19)}, []api.Named{named("nuts", 19)}, 1_330, nil},
		"a deal of no ware, and one":   {[]api.Deal{deal("a", "nothing", 2, 1), deal("b", "salt", 2, 1)}, []api.Named{named("nuts", 2)}, 70, []string{"b"}},
		"in the order of their keys":   {[]api.Deal{deal("a", "sweet", 2, 1), deal("b", "drink", 2, 1)}, []api.Named{named("bar", 2), named("water", 2)}, 140, []string{"a", "b"}},
		"dear first, whatever its key": {[]api.Deal{deal("a", "drink", 2, 1)}, []api.Named{named("milk", 2), named("water", 2)}, 90, []string{"a"}},
	} {
		if n, keys, e := depot.Price(wares(), x.d, x.b); n != x.want || !slices.Equal(keys, x.keys) || e != api.OK {
			t.Errorf("%s: %d %q %d, not %d %q", name, n, keys, e, x.want, x.keys)
		}
	}
	most := manyWares(api.MaxWares)
	if n, keys, e := depot.Price(most, nil, manyNamed(100, 100)); n != api.MaxCents || len(keys) != 0 || e != api.OK {
		t.Error(n, keys, e)
	}
	if n, keys, e := depot.Price(most, []api.Deal{deal("a", "all", 20, 19)}, manyNamed(100, 100)); n != api.MaxCents/20 || !slices.Equal(keys, []string{"a"}) || e != api.OK {
		t.Error(n, keys, e)
	}
}

// priceSlowly is Price with each unit by itself.
func priceSlowly(l []api.Ware, d []api.Deal, b []api.Named) (int, []string) {
	sum := 0
	var keys []string
	dealOf := map[string]api.Deal{}
	for _, x := range d {
		dealOf[x.Group] = x
	}
	units := map[string][]api.Ware{} // by group
	for _, x := range b {
		for _, w := range l {
			for range x.Many {
				if w.Key == x.Key {
					units[w.Group] = append(units[w.Group], w)
				}
			}
		}
	}
	for group, u := range units {
		sort.SliceStable(u, func(i, k int) bool {
			return u[i].Price > u[k].Price || u[i].Price == u[k].Price && u[i].Key < u[k].Key
		})
		x, ok := dealOf[group]
		made := false
		for i, w := range u {
			if ok && i/x.Many < len(u)/x.Many && i%x.Many >= x.Many-x.Free {
				made = true
			} else {
				sum += w.Price
			}
		}
		if made {
			keys = append(keys, x.Key)
		}
	}
	sort.Strings(keys)
	return sum, keys
}

// P8.4: Price against single units; a deal never makes a basket dearer; if Free is 1, a unit more does not make it cheaper.
func TestPriceAgainstUnits(t *testing.T) {
	r := rand.New(rand.NewSource(84))
	groups := []string{"a", "b", "c"}
	made := 0
	for range 3_000 {
		var l []api.Ware
		var b []api.Named
		for _, key := range names(1 + r.Intn(6)) {
			l = append(l, ware(key, r.Intn(6), groups[r.Intn(3)]))
			if r.Intn(3) > 0 {
				b = append(b, named(key, 1+r.Intn(5)))
			}
		}
		var d []api.Deal
		one := true
		for i, group := range r.Perm(3)[:r.Intn(4)] {
			many := 2 + r.Intn(4)
			x := deal(names(3)[i], groups[group], many, 1+r.Intn(many-1))
			one = one && x.Free == 1
			d = append(d, x)
		}
		n, keys, e := depot.Price(l, d, b)
		want, wantKeys := priceSlowly(l, d, b)
		if n != want || !slices.Equal(keys, wantKeys) || e != api.OK {
			t.Fatal(l, d, b, n, keys, e, want, wantKeys)
		}
		made += len(keys)
		without, _, _ := depot.Price(l, nil, b)
		if n > without {
			t.Fatal(l, d, b, n, without)
		}
		for i := range b {
			more := slices.Clone(b)
			more[i].Many++
			if m, _, e := depot.Price(l, d, more); e != api.OK || one && m < n {
				t.Fatal(l, d, more, m, n, e)
			}
		}
	}
	if made < 500 {
		t.Error(made)
	}
}
