package stock_test

import (
	"fmt"
	"math"
	"math/rand"
	"slices"
	"testing"

	"coilrack/api"
	"coilrack/meter"
	"coilrack/stock"
)

func need(place, product string, many int) api.Need {
	return api.Need{Place: place, Product: product, Many: many}
}

func kit(place, product string, p ...api.Piece) api.Kit {
	return api.Kit{Place: place, Product: product, Pieces: p}
}

// manyNeeds makes n needs of one product.
func manyNeeds(n, many int) []api.Need {
	var l []api.Need
	for i := range n {
		l = append(l, need(fmt.Sprintf("p%03d", i), "can", many))
	}
	return l
}

func sameKits(a, b []api.Kit) bool {
	return slices.EqualFunc(a, b, func(a, b api.Kit) bool {
		return a.Place == b.Place && a.Product == b.Product && slices.Equal(a.Pieces, b.Pieces)
	})
}

// P4.2: what is wrong with needs; Kit and Short return this error before others, and with it nothing else.
func TestCheckNeeds(t *testing.T) {
	for name, x := range map[string]struct {
		l    []api.Need
		want api.Errno
	}{
		"too many":                 {manyNeeds(api.MaxNeeds+1, 0), api.ErrLarge},
		"too many, before others":  {make([]api.Need, api.MaxNeeds+1), api.ErrLarge},
		"no place":                 {[]api.Need{need("", "can", 5)}, api.ErrName},
		"a place that is no key":   {[]api.Need{need("x", "can", 5), need("Y", "can", 5)}, api.ErrName},
		"no product":               {[]api.Need{need("x", "", 5)}, api.ErrName},
		"a product that is no key": {[]api.Need{need("x", "can", 5), need("y", "9", 5)}, api.ErrName},
		"the same need":            {[]api.Need{need("x", "can", 5), need("x", "can", 6)}, api.ErrOrder},
		"a lesser product":         {[]api.Need{need("x", "can", 5), need("x", "bar", 5)}, api.ErrOrder},
		"a lesser place":           {[]api.Need{need("x", "bar", 5), need("w", "can", 5)}, api.ErrOrder},
		"many below 0":             {[]api.Need{need("x", "can", -1)}, api.ErrArg},
		"least many":               {[]api.Need{need("x", "can", math.MinInt)}, api.ErrArg},
		"too many units":           {[]api.Need{need("x", "can", 5), need("y", "can", api.MaxUnits+1)}, api.ErrArg},
		"greatest many":            {[]api.Need{need("x", "can", math.MaxInt), need("y", "can", math.MaxInt)}, api.ErrArg},
		"place before order":       {[]api.Need{need("x", "can", 5), need("", "can", 5)}, api.ErrName},
		"product before order":     {[]api.Need{need("x", "can", 5), need("x", "", 5)}, api.ErrName},
		"product before many":      {[]api.Need{need("x", "", -1)}, api.ErrName},
		"order before many":        {[]api.Need{need("x", "can", 5), need("x", "can", -1)}, api.ErrOrder},
		"the first one first":      {[]api.Need{need("x", "can", -1), need("", "", 5)}, api.ErrArg},
	} {
		if e := stock.CheckNeeds(x.l); e != x.want {
			t.Errorf("%s: CheckNeeds %d", name, e)
		}
		if k, l, e := stock.Kit(example(), x.l, -1, -1); len(k) != 0 || len(l) != 0 || e != x.want {
			t.Errorf("%s: Kit %v %v %d", name, k, l, e)
		}
		if s, e := stock.Short(example(), x.l, -1, -1); len(s) != 0 || e != x.want {
			t.Errorf("%s: Short %v %d", name, s, e)
		}
	}
	for _, l := range [][]api.Need{
		nil, {}, manyNeeds(api.MaxNeeds, 0), manyNeeds(api.MaxNeeds, api.MaxUnits),
		{need("x", "bar", 0), need("x", "can", api.MaxUnits), need("y", "bar", 1)},
	} {
		if e := stock.CheckNeeds(l); e != api.OK {
			t.Errorf("%v: %d", l, e)
		}
	}
}

// P4.2: days and sums that Kit and Short refuse.
func TestKitErrors(t *testing.T) {
	refused := func(l []api.Lot, needs []api.Need, day, left int) {
		t.Helper()
		if k, rest, e := stock.Kit(l, needs, day, left); len(k) != 0 || len(rest) != 0 || e != api.ErrArg {
			t.Errorf("Kit %v %d %d: %v %v %d", needs, day, left, k, rest, e)
		}
		if s, e := stock.Short(l, needs, day, left); len(s) != 0 || e != api.ErrArg {
			t.Errorf("Short %v %d %d: %v %d", needs, day, left, s, e)
		}
	}
	for _, d := range badDays() {
		refused(example(), manyNeeds(2, 3), d[0], d[1])
		refused(nil, nil, d[0], d[1])
	}
	ten := manyNeeds(10, api.MaxUnits)
	refused(nil, append(ten, need("q", "can", 1)), 3, 2)
	refused(manyLots(20), manyNeeds(api.MaxNeeds, api.MaxUnits), 3, 2) // also where there is enough for many
	refused(manyLots(20), append(ten, need("q", "bar", 1), need("q", "can", 1)), 3, 2)
	good := append(ten, need("q", "bar", api.MaxUnits), need("q", "can", 0))
	if k, l, e := stock.Kit(manyLots(20), good, 3, 2); len(k) != 12 || len(l) != 20 || e != api.OK {
		t.Error("10^6 of one product, and others", len(k), len(l), e)
	}
	if s, e := stock.Short(nil, good, 3, 2); !slices.Equal(s, []api.Named{{Key: "bar", Many: api.MaxUnits}, {Key: "can", Many: 1_000_000}}) || e != api.OK {
		t.Error(s, e)
	}
}

// P4.2: Kit and Short where the document names the result.
func TestKit(t *testing.T) {
	for name, x := range map[string]struct {
		l         []api.Lot
		needs     []api.Need
		day, left int
		kits      []api.Kit
		rest      []int // Many of each lot
		short     []api.Named
	}{
		"nothing":  {nil, nil, 3, 2, nil, nil, nil},
		"no needs": {example(), nil, 3, 2, nil, []int{5, 5}, nil},
		"no lots":  {nil, []api.Need{need("x", "can", 2), need("y", "can", 0)}, 3, 2, []api.Kit{kit("x", "can"), kit("y", "can")}, nil, []api.Named{{Key: "can", Many: 2}}},
		"enough": {
			example(), []api.Need{need("x", "can", 4), need("y", "can", 3)}, 3, 2,
			[]api.Kit{kit("x", "can", piece("b", 4)), kit("y", "can", piece("b", 1), piece("a", 2))}, []int{3, 0}, nil,
		},
		"just enough": {
			example(), []api.Need{need("x", "can", 4), need("y", "can", 6)}, 3, 2,
			[]api.Kit{kit("x", "can", piece("b", 4)), kit("y", "can", piece("b", 1), piece("a", 5))}, []int{0, 0}, nil,
		},
		// 9 of 15 and 6 of 15 of 10
		"too few": {
			example(), []api.Need{need("x", "can", 9), need("y", "can", 6)}, 3, 2,
			[]api.Kit{kit("x", "can", piece("b", 5), piece("a", 1)), kit("y", "can", piece("a", 4))}, []int{0, 0}, []api.Named{{Key: "can", Many: 5}},
		},
		// 5 among 4, 0, 4 and 3: 1.82, 0, 1.82 and 1.36
		"too few that are fresh": {
			example(), []api.Need{need("w", "can", 4), need("x", "can", 0), need("y", "can", 4), need("z", "can", 3)}, 3, 5,
			[]api.Kit{kit("w", "can", piece("a", 2)), kit("x", "can"), kit("y", "can", piece("a", 2)), kit("z", "can", piece("a", 1))},
			[]int{0, 5}, []api.Named{{Key: "can", Many: 6}},
		},
		// of equal remainders the first one, and nothing for a need of 0
		"one unit": {
			[]api.Lot{lot("a", "can", 9, 1)}, []api.Need{need("w", "can", 0), need("x", "can", 2), need("y", "can", 2)}, 3, 5,
			[]api.Kit{kit("w", "can"), kit("x", "can", piece("a", 1)), kit("y", "can")}, []int{0}, []api.Named{{Key: "can", Many: 3}},
		},
		// of can all get what they need: 11; bar is short: 4 among 3 and 5, which is 1.5 and 2.5; there is no tea, and no nut
		"several products": {
			mixed(), []api.Need{
				need("x", "bar", 3), need("x", "can", 5), need("x", "tea", 2), need("y", "bar", 5), need("y", "can", 6), need("y", "nut", 1), need("z", "nut", 0), need("z", "tea", 1),
			}, 5, 0,
			[]api.Kit{
				kit("x", "bar", piece("f", 1), piece("b", 1)), kit("x", "can", piece("c", 4), piece("a", 1)), kit("x", "tea"),
				kit("y", "bar", piece("b", 2)), kit("y", "can", piece("a", 4), piece("d", 2)), kit("y", "nut"), kit("z", "nut"), kit("z", "tea"),
			},
			[]int{0, 0, 0, 0, 0, 0, 6, 0}, []api.Named{{Key: "bar", Many: 4}, {Key: "nut", Many: 1}, {Key: "tea", Many: 3}},
		},
	} {
		rest := slices.Clone(x.l)
		for i := range rest {
			rest[i].Many = x.rest[i]
		}
		if k, l, e := stock.Kit(x.l, x.needs, x.day, x.left); !sameKits(k, x.kits) || !slices.Equal(l, rest) || e != api.OK {
			t.Errorf("%s: Kit %v %v %d", name, k, l, e)
		}
		if s, e := stock.Short(x.l, x.needs, x.day, x.left); !slices.Equal(s, x.short) || e != api.OK {
			t.Errorf("%s: Short %v %d", name, s, e)
		}
	}
}

// someNeeds makes needs of places and products, in order.
func someNeeds(r *rand.Rand) []api.Need {
	var l []api.Need
	for _, place := range []string{"w", "x", "y", "z"} {
		for _, product := range []string{"bar", "can", "nut", "tea"} {
			if r.Intn(2) == 0 {
				l = append(l, need(place, product, r.Intn(9)))
			}
		}
	}
	return l
}

// gets is how many units each need is to get of a product, and how many are missing.
func gets(t *testing.T, l []api.Lot, needs []api.Need, product string, day, left int) ([]int, int) {
	t.Helper()
	weights := make([]int, len(needs))
	sum := 0
	for i, n := range needs {
		if n.Product == product {
			weights[i] = n.Many
			sum += n.Many
		}
	}
	fresh, e := stock.Fresh(l, product, day, left)
	if e != api.OK {
		t.Fatal(e)
	}
	if fresh >= sum {
		return weights, 0
	}
	parts, e := meter.Share(fresh, weights)
	if e != api.OK {
		t.Fatal(e)
	}
	return parts, sum - fresh
}

// P4.2: Kit is Share and then Pick; what it gives, and what is left, is what there was.
func TestKitOfSome(t *testing.T) {
	r := rand.New(rand.NewSource(42))
	for range 1_500 {
		l, needs := someLots(r, 12), someNeeds(r)
		day, left := r.Intn(5), r.Intn(3)
		parts := make([]int, len(needs))
		var short []api.Named
		for _, product := range []string{"bar", "can", "nut", "tea"} {
			some, missing := gets(t, l, needs, product, day, left)
			for i, n := range some {
				parts[i] += n
			}
			if missing > 0 {
				short = append(short, api.Named{Key: product, Many: missing})
			}
		}
		rest := slices.Clone(l)
		var want []api.Kit
		for i, n := range needs {
			p, ok := take(rest, n.Product, parts[i], day+left)
			if !ok {
				t.Fatal("the parts are more than there is")
			}
			want = append(want, kit(n.Place, n.Product, p...))
		}
		k, got, e := stock.Kit(l, needs, day, left)
		if !sameKits(k, want) || !slices.Equal(got, rest) || e != api.OK {
			t.Fatalf("%v %v %d %d: %v %v %d, not %v %v", l, needs, day, left, k, got, e, want, rest)
		}
		addsUp(t, l, got, k)
		if s, e := stock.Short(l, needs, day, left); !slices.Equal(s, short) || e != api.OK {
			t.Fatalf("%v %v %d %d: %v %d, not %v", l, needs, day, left, s, e, short)
		}
	}
}

// addsUp says whether lots, and what kits took out of them, are what there was.
func addsUp(t *testing.T, before, after []api.Lot, kits []api.Kit) {
	t.Helper()
	sums := map[string]int{}
	for _, x := range after {
		sums[x.Id] += x.Many
	}
	for _, k := range kits {
		for _, p := range k.Pieces {
			sums[p.Lot] += p.Many
		}
	}
	for _, x := range before {
		if sums[x.Id] != x.Many {
			t.Fatalf("%v: %d", x, sums[x.Id])
		}
	}
}
