package stock_test

import (
	"fmt"
	"math"
	"math/rand"
	"slices"
	"strings"
	"testing"

	"coilrack/api"
	"coilrack/stock"
)

func lot(id, product string, expires, many int) api.Lot {
	return api.Lot{Id: id, Product: product, Expires: expires, Many: many}
}

func piece(lot string, many int) api.Piece { return api.Piece{Lot: lot, Many: many} }

// example is the lots of the chapter's example.
func example() []api.Lot { return []api.Lot{lot("a", "can", 9, 5), lot("b", "can", 7, 5)} }

// mixed is lots of two products, two of which expire together, two are empty, and one is no more sold on day 5.
func mixed() []api.Lot {
	return []api.Lot{
		lot("a", "can", 9, 5), lot("b", "bar", 8, 3), lot("c", "can", 7, 4), lot("d", "can", 9, 2),
		lot("e", "can", 6, 0), lot("f", "bar", 6, 1), lot("g", "can", 4, 6), lot("h", "tea", 20, 0),
	}
}

// manyLots makes n lots that are as large as they can be.
func manyLots(n int) []api.Lot {
	var l []api.Lot
	for i := range n {
		l = append(l, lot(fmt.Sprintf("l%03d", i), "can", api.MaxDay, api.MaxUnits))
	}
	return l
}

// someLots makes up to most lots with small numbers.
func someLots(r *rand.Rand, most int) []api.Lot {
	var l []api.Lot
	for i := range r.Intn(most + 1) {
		l = append(l, lot(fmt.Sprintf("l%02d", i), []string{"bar", "can", "tea"}[r.Intn(3)], r.Intn(8), r.Intn(6)))
	}
	return l
}

// badLots is lists of lots with their errors.
func badLots() map[string]struct {
	l    []api.Lot
	want api.Errno
} {
	long := strings.Repeat("k", api.MaxName+1)
	type row = struct {
		l    []api.Lot
		want api.Errno
	}
	return map[string]row{
		"too many":                 {manyLots(api.MaxLots + 1), api.ErrLarge},
		"too many, before others":  {make([]api.Lot, api.MaxLots+1), api.ErrLarge},
		"no id":                    {[]api.Lot{lot("", "can", 3, 5)}, api.ErrName},
		"an id that is no key":     {[]api.Lot{lot("a", "can", 3, 5), lot("B", "can", 3, 5)}, api.ErrName},
		"a long id":                {[]api.Lot{lot(long, "can", 3, 5)}, api.ErrName},
		"the same id":              {[]api.Lot{lot("a", "can", 3, 5), lot("a", "can", 4, 5)}, api.ErrOrder},
		"a lesser id":              {[]api.Lot{lot("b", "can", 3, 5), lot("a", "can", 4, 5)}, api.ErrOrder},
		"no product":               {[]api.Lot{lot("a", "", 3, 5)}, api.ErrName},
		"a product that is no key": {[]api.Lot{lot("a", "can", 3, 5), lot("b", "a can", 3, 5)}, api.ErrName},
		"expires below 0":          {[]api.Lot{lot("a", "can", -1, 5)}, api.ErrArg},
		"least expires":            {[]api.Lot{lot("a", "can", math.MinInt, 5)}, api.ErrArg},
		"expires after all days":   {[]api.Lot{lot("a", "can", api.MaxDay+1, 5)}, api.ErrArg},
		"greatest expires":         {[]api.Lot{lot("a", "can", math.MaxInt, 5)}, api.ErrArg},
		"many below 0":             {[]api.Lot{lot("a", "can", 3, -1)}, api.ErrArg},
		"least many":               {[]api.Lot{lot("a", "can", 3, math.MinInt)}, api.ErrArg},
		"too many units":           {[]api.Lot{lot("a", "can", 3, 5), lot("b", "can", 3, api.MaxUnits+1)}, api.ErrArg},
		"greatest many":            {[]api.Lot{lot("a", "can", 3, math.MaxInt)}, api.ErrArg},
		"id before order":          {[]api.Lot{lot("a", "can", 3, 5), lot("", "can", 3, 5)}, api.ErrName},
		"order before product":     {[]api.Lot{lot("a", "can", 3, 5), lot("a", "", 3, 5)}, api.ErrOrder},
		"product before expires":   {[]api.Lot{lot("a", "", -1, -1)}, api.ErrName},
		"the first one first":      {[]api.Lot{lot("b", "can", -1, 5), lot("a", "can", 3, 5)}, api.ErrArg},
		"the second one first":     {[]api.Lot{lot("b", "can", 3, 5), lot("a", "can", 3, 5), lot("", "", 3, 5)}, api.ErrOrder},
	}
}

// P4.1: what is wrong with lots.
func TestCheckLots(t *testing.T) {
	for name, x := range badLots() {
		if e := stock.CheckLots(x.l); e != x.want {
			t.Errorf("%s: %d", name, e)
		}
	}
	for _, l := range [][]api.Lot{
		nil, {}, example(), mixed(), manyLots(api.MaxLots), {lot("a", "a", 0, 0)},
		{lot("a", "can", api.MaxDay, api.MaxUnits), lot("a-", "can", 0, 0), lot("a0", "can", 0, 0), lot("a_", "can", 0, 0), lot("aa", "can", 0, 0)},
		{lot(strings.Repeat("k", api.MaxName), strings.Repeat("k", api.MaxName), 3, 5)},
	} {
		if e := stock.CheckLots(l); e != api.OK {
			t.Errorf("%v: %d", l, e)
		}
	}
}

// P4.1: every function with lots returns their error first, and with it nothing else.
func TestLotsFirst(t *testing.T) {
	needs := []api.Need{{}}
	coil := api.Coil{Most: -1}
	p := []api.Piece{{}}
	for name, x := range badLots() {
		n, e := stock.Count(x.l, "")
		if n != 0 || e != x.want {
			t.Errorf("%s: Count %d %d", name, n, e)
		}
		n, e = stock.Fresh(x.l, "", -1, -1)
		if n != 0 || e != x.want {
			t.Errorf("%s: Fresh %d %d", name, n, e)
		}
		q, e := stock.Pick(x.l, "", -1, -1, -1)
		if len(q) != 0 || e != x.want {
			t.Errorf("%s: Pick %v %d", name, q, e)
		}
		l, q, e := stock.Spoil(x.l, -1)
		if len(l) != 0 || len(q) != 0 || e != x.want {
			t.Errorf("%s: Spoil %v %v %d", name, l, q, e)
		}
		k, l, e := stock.Kit(x.l, needs, -1, -1)
		if len(k) != 0 || len(l) != 0 || e != x.want {
			t.Errorf("%s: Kit %v %v %d", name, k, l, e)
		}
		s, e := stock.Short(x.l, needs, -1, -1)
		if len(s) != 0 || e != x.want {
			t.Errorf("%s: Short %v %d", name, s, e)
		}
		c, e := stock.Push(coil, x.l, p)
		if !isZero(c) || e != x.want {
			t.Errorf("%s: Push %v %d", name, c, e)
		}
		c, e = stock.Rotate(coil, x.l, p)
		if !isZero(c) || e != x.want {
			t.Errorf("%s: Rotate %v %d", name, c, e)
		}
		n, e = stock.Blocked(coil, x.l, -1)
		if n != 0 || e != x.want {
			t.Errorf("%s: Blocked %d %d", name, n, e)
		}
		n, e = stock.Stale(coil, x.l, -1, []int{-1})
		if n != 0 || e != x.want {
			t.Errorf("%s: Stale %d %d", name, n, e)
		}
	}
}

// P4.1: how many units of a product there are.
func TestCount(t *testing.T) {
	for _, x := range []struct {
		l       []api.Lot
		product string
		want    int
	}{
		{nil, "can", 0}, {example(), "can", 10}, {example(), "bar", 0}, {example(), "a", 0},
		{mixed(), "can", 17}, {mixed(), "bar", 4}, {mixed(), "tea", 0},
		{[]api.Lot{lot("a", "can", 0, 5)}, "can", 5},
		{manyLots(api.MaxLots), "can", api.MaxLots * api.MaxUnits},
	} {
		if n, e := stock.Count(x.l, x.product); n != x.want || e != api.OK {
			t.Errorf("%d lots, %s: %d %d", len(x.l), x.product, n, e)
		}
	}
	for _, product := range []string{"", "Can", "9", "ä"} {
		if n, e := stock.Count(example(), product); n != 0 || e != api.ErrName {
			t.Errorf("%q: %d %d", product, n, e)
		}
	}
}

// P4.1: how many can be sent.
func TestFresh(t *testing.T) {
	for _, x := range []struct {
		l         []api.Lot
		product   string
		day, left int
		want      int
	}{
		{nil, "can", 3, 2, 0},
		{example(), "can", 3, 2, 10}, {example(), "can", 3, 4, 10}, {example(), "can", 3, 5, 5}, {example(), "can", 3, 6, 5}, {example(), "can", 3, 7, 0},
		{example(), "can", 7, 0, 10}, {example(), "can", 8, 0, 5}, {example(), "can", 9, 0, 5}, {example(), "can", 10, 0, 0},
		{example(), "can", 0, 0, 10}, {example(), "can", 0, 7, 10}, {example(), "can", 0, 8, 5},
		{example(), "bar", 3, 2, 0},
		{mixed(), "can", 5, 0, 11}, {mixed(), "can", 4, 0, 17}, {mixed(), "can", 4, 4, 7}, {mixed(), "bar", 5, 1, 4}, {mixed(), "bar", 5, 2, 3},
		{manyLots(api.MaxLots), "can", api.MaxDay, 0, api.MaxLots * api.MaxUnits},
		{manyLots(api.MaxLots), "can", 0, api.MaxDay, api.MaxLots * api.MaxUnits},
		{manyLots(api.MaxLots), "can", api.MaxDay, 1, 0}, {manyLots(api.MaxLots), "can", api.MaxDay, api.MaxDay, 0},
	} {
		if n, e := stock.Fresh(x.l, x.product, x.day, x.left); n != x.want || e != api.OK {
			t.Errorf("%d lots, %s on %d, %d left: %d %d", len(x.l), x.product, x.day, x.left, n, e)
		}
	}
}

// badDays is days, and numbers of days that must be left, that are out of range.
func badDays() [][2]int {
	var l [][2]int
	for _, n := range []int{-1, api.MaxDay + 1, math.MinInt, math.MaxInt} {
		l = append(l, [2]int{n, 0}, [2]int{0, n}, [2]int{n, n}, [2]int{3, n}, [2]int{n, 2})
	}
	return l
}

// P4.1, P4.2: errors of Fresh and Pick, in order.
func TestFreshAndPickErrors(t *testing.T) {
	for _, product := range []string{"", "Can", "9", "a can"} {
		if n, e := stock.Fresh(example(), product, -1, -1); n != 0 || e != api.ErrName {
			t.Errorf("Fresh %q: %d %d", product, n, e)
		}
		if p, e := stock.Pick(example(), product, -1, -1, -1); len(p) != 0 || e != api.ErrName {
			t.Errorf("Pick %q: %v %d", product, p, e)
		}
	}
	for _, d := range badDays() {
		if n, e := stock.Fresh(example(), "can", d[0], d[1]); n != 0 || e != api.ErrArg {
			t.Errorf("Fresh %v: %d %d", d, n, e)
		}
		for _, many := range []int{0, 1, 11, -1} {
			if p, e := stock.Pick(example(), "can", many, d[0], d[1]); len(p) != 0 || e != api.ErrArg {
				t.Errorf("Pick %d %v: %v %d", many, d, p, e)
			}
		}
	}
	for many, want := range map[int]api.Errno{
		-1: api.ErrArg, math.MinInt: api.ErrArg, api.MaxUnits + 1: api.ErrArg, math.MaxInt: api.ErrArg,
		api.MaxUnits: api.ErrNone, 11: api.ErrNone, 10: api.OK,
	} {
		if p, e := stock.Pick(example(), "can", many, 3, 2); (want != api.OK && len(p) != 0) || e != want {
			t.Errorf("%d: %v %d", many, p, e)
		}
	}
	if p, e := stock.Pick(manyLots(3), "can", api.MaxUnits+1, 3, 2); len(p) != 0 || e != api.ErrArg {
		t.Error("there are as many, but Pick takes fewer", p, e)
	}
}

// P4.2: Pick where the document names the result.
func TestPick(t *testing.T) {
	for _, x := range []struct {
		l               []api.Lot
		product         string
		many, day, left int
		want            []api.Piece
		e               api.Errno
	}{
		{example(), "can", 6, 3, 2, []api.Piece{piece("b", 5), piece("a", 1)}, api.OK},
		{example(), "can", 6, 3, 5, nil, api.ErrNone},
		{example(), "can", 5, 3, 5, []api.Piece{piece("a", 5)}, api.OK},
		{example(), "can", 5, 3, 2, []api.Piece{piece("b", 5)}, api.OK}, // no piece of a with 0
		{example(), "can", 4, 3, 4, []api.Piece{piece("b", 4)}, api.OK}, // Expires is day + left
		{example(), "can", 10, 3, 2, []api.Piece{piece("b", 5), piece("a", 5)}, api.OK},
		{example(), "can", 11, 3, 2, nil, api.ErrNone},
		{example(), "can", 0, 3, 2, nil, api.OK},
		{example(), "bar", 0, 3, 2, nil, api.OK},
		{example(), "bar", 1, 3, 2, nil, api.ErrNone},
		{nil, "can", 0, api.MaxDay, api.MaxDay, nil, api.OK},
		{nil, "can", 1, 0, 0, nil, api.ErrNone},
		// g is no more sold, e is empty, b is another product; a and d expire together
		{mixed(), "can", 11, 5, 0, []api.Piece{piece("c", 4), piece("a", 5), piece("d", 2)}, api.OK},
		{mixed(), "can", 12, 5, 0, nil, api.ErrNone},
		{mixed(), "can", 12, 4, 0, []api.Piece{piece("g", 6), piece("c", 4), piece("a", 2)}, api.OK},
		{mixed(), "can", 9, 5, 1, []api.Piece{piece("c", 4), piece("a", 5)}, api.OK},
		{mixed(), "bar", 2, 5, 0, []api.Piece{piece("f", 1), piece("b", 1)}, api.OK},
		{mixed(), "tea", 1, 5, 0, nil, api.ErrNone},
		{manyLots(3), "can", api.MaxUnits, api.MaxDay, 0, []api.Piece{piece("l000", api.MaxUnits)}, api.OK},
	} {
		if p, e := stock.Pick(x.l, x.product, x.many, x.day, x.left); !slices.Equal(p, x.want) || e != x.e {
			t.Errorf("%d of %s on %d, %d left: %v %d", x.many, x.product, x.day, x.left, p, e)
		}
	}
}

// take takes units out of lots one by one: always of what expires first, then of the least Id. It returns false if there are not enough.
func take(l []api.Lot, product string, many, least int) ([]api.Piece, bool) {
	var p []api.Piece
	for range many {
		best := -1
		for i, x := range l {
			if x.Product == product && x.Many > 0 && x.Expires >= least && (best < 0 || x.Expires < l[best].Expires) {
				best = i
			}
		}
		if best < 0 {
			return nil, false
		}
		l[best].Many--
		if n := len(p); n > 0 && p[n-1].Lot == l[best].Id {
			p[n-1].Many++
		} else {
			p = append(p, piece(l[best].Id, 1))
		}
	}
	return p, true
}

// P4.2: Pick takes what taking one by one takes, and no later unit while it leaves an earlier one.
func TestPickOfSome(t *testing.T) {
	r := rand.New(rand.NewSource(41))
	for range 3_000 {
		l := someLots(r, 9)
		many, day, left := r.Intn(12), r.Intn(6), r.Intn(4)
		fresh, e := stock.Fresh(l, "can", day, left)
		if e != api.OK {
			t.Fatal(l, e)
		}
		rest := slices.Clone(l)
		want, ok := take(rest, "can", many, day+left)
		p, e := stock.Pick(l, "can", many, day, left)
		if ok != (e == api.OK) || !ok && e != api.ErrNone || ok != (many <= fresh) || !slices.Equal(p, want) {
			t.Fatalf("%v, %d on %d, %d left: %v %d, not %v", l, many, day, left, p, e, want)
		}
	}
}

// P4.2: what can be sold no more is taken out.
func TestSpoil(t *testing.T) {
	for _, x := range []struct {
		l    []api.Lot
		day  int
		gone []api.Piece
	}{
		{nil, 5, nil}, {example(), 0, nil}, {example(), 7, nil},
		{example(), 8, []api.Piece{piece("b", 5)}}, {example(), 9, []api.Piece{piece("b", 5)}},
		{example(), 10, []api.Piece{piece("a", 5), piece("b", 5)}},
		{mixed(), 5, []api.Piece{piece("g", 6)}},
		{mixed(), 9, []api.Piece{piece("b", 3), piece("c", 4), piece("f", 1), piece("g", 6)}}, // nothing of e, which is empty
		{mixed(), api.MaxDay, []api.Piece{piece("a", 5), piece("b", 3), piece("c", 4), piece("d", 2), piece("f", 1), piece("g", 6)}},
		{manyLots(2), api.MaxDay, nil},
	} {
		want := slices.Clone(x.l)
		for i, y := range want {
			if slices.ContainsFunc(x.gone, func(p api.Piece) bool { return p.Lot == y.Id }) {
				want[i].Many = 0
			}
		}
		if l, p, e := stock.Spoil(x.l, x.day); !slices.Equal(l, want) || !slices.Equal(p, x.gone) || e != api.OK {
			t.Errorf("%v on %d: %v %v %d", x.l, x.day, l, p, e)
		}
	}
	for _, day := range []int{-1, api.MaxDay + 1, math.MinInt, math.MaxInt} {
		if l, p, e := stock.Spoil(example(), day); len(l) != 0 || len(p) != 0 || e != api.ErrArg {
			t.Errorf("%d: %v %v %d", day, l, p, e)
		}
	}
}
