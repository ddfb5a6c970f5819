package stock_test

import (
	"cmp"
	"fmt"
	"math"
	"math/rand"
	"slices"
	"strings"
	"testing"

	"coilrack/api"
	"coilrack/stock"
)

func coil(most int, p ...api.Piece) api.Coil {
	return api.Coil{Product: "can", Most: most, Pieces: p}
}

func isZero(c api.Coil) bool { return c.Product == "" && c.Most == 0 && len(c.Pieces) == 0 }

func sameCoil(a, b api.Coil) bool {
	return a.Product == b.Product && a.Most == b.Most && slices.Equal(a.Pieces, b.Pieces)
}

// singles makes n pieces of one unit, of two lots in turn.
func singles(n int) []api.Piece {
	var p []api.Piece
	for i := range n {
		p = append(p, piece([]string{"a", "b"}[i%2], 1))
	}
	return p
}

// named makes a coil of a product.
func named(product string) api.Coil { return api.Coil{Product: product, Most: 5} }

// badCoils is coils with their errors.
func badCoils() map[string]struct {
	c    api.Coil
	want api.Errno
} {
	type row = struct {
		c    api.Coil
		want api.Errno
	}
	return map[string]row{
		"no product":                {named(""), api.ErrName},
		"a product that is no key":  {named("Can"), api.ErrName},
		"a long product":            {named(strings.Repeat("k", api.MaxName+1)), api.ErrName},
		"most below 0":              {coil(-1), api.ErrArg},
		"least most":                {coil(math.MinInt), api.ErrArg},
		"most above 1,000":          {coil(1_001), api.ErrArg},
		"greatest most":             {coil(math.MaxInt), api.ErrArg},
		"product before most":       {api.Coil{Most: -1}, api.ErrName},
		"too many pieces":           {coil(1_000, singles(1_001)...), api.ErrLarge},
		"too many, before others":   {coil(5, make([]api.Piece, 1_001)...), api.ErrLarge},
		"most before too many":      {coil(-1, singles(1_001)...), api.ErrArg},
		"no lot":                    {coil(5, piece("", 1)), api.ErrName},
		"a lot that is no key":      {coil(5, piece("a", 1), piece("a b", 1)), api.ErrName},
		"no units":                  {coil(5, piece("a", 1), piece("b", 0)), api.ErrArg},
		"units below 0":             {coil(5, piece("a", 1), piece("b", -1)), api.ErrArg},
		"least units":               {coil(5, piece("a", math.MinInt)), api.ErrArg},
		"too many units":            {coil(1_000, piece("a", 1_001)), api.ErrArg},
		"greatest units":            {coil(5, piece("a", math.MaxInt), piece("b", math.MaxInt)), api.ErrArg},
		"the same lot":              {coil(5, piece("a", 1), piece("b", 1), piece("b", 2)), api.ErrForm},
		"more than most":            {coil(5, piece("a", 3), piece("b", 3)), api.ErrFull},
		"more than none":            {coil(0, piece("a", 1)), api.ErrFull},
		"one more than most":        {coil(999, piece("a", 1_000)), api.ErrFull},
		"lot before units":          {coil(5, piece("", 0)), api.ErrName},
		"units before the same lot": {coil(5, piece("a", 1), piece("a", 0)), api.ErrArg},
		"the same lot before most":  {coil(5, piece("a", 3), piece("a", 3)), api.ErrForm},
		"the first one first":       {coil(5, piece("a", 0), piece("", 1)), api.ErrArg},
		"the second one first":      {coil(5, piece("a", 1), piece("a", 1), piece("", 0)), api.ErrForm},
		"each one before all":       {coil(5, piece("a", 9), piece("b", 1), piece("", 0)), api.ErrName},
	}
}

// P4.3: what is wrong with a coil.
func TestCheckCoil(t *testing.T) {
	for name, x := range badCoils() {
		if e := stock.CheckCoil(x.c); e != x.want {
			t.Errorf("%s: %d", name, e)
		}
	}
	for _, c := range []api.Coil{
		coil(0), coil(1_000), coil(5, piece("a", 5)), coil(5, piece("a", 1), piece("b", 1), piece("a", 3)),
		coil(1_000, piece("a", 1_000)), coil(1_000, singles(1_000)...), named(strings.Repeat("k", api.MaxName)),
	} {
		if e := stock.CheckCoil(c); e != api.OK {
			t.Errorf("%v: %d", c, e)
		}
	}
}

// P4.3: every function with a coil returns its error before others but those of lots, and with it nothing else.
func TestCoilFirst(t *testing.T) {
	p := []api.Piece{{}}
	for name, x := range badCoils() {
		if n, e := stock.Room(x.c); n != 0 || e != x.want {
			t.Errorf("%s: Room %d %d", name, n, e)
		}
		if c, q, e := stock.Sell(x.c, -1); !isZero(c) || len(q) != 0 || e != x.want {
			t.Errorf("%s: Sell %v %v %d", name, c, q, e)
		}
		if c, e := stock.Push(x.c, example(), p); !isZero(c) || e != x.want {
			t.Errorf("%s: Push %v %d", name, c, e)
		}
		if c, e := stock.Rotate(x.c, nil, p); !isZero(c) || e != x.want {
			t.Errorf("%s: Rotate %v %d", name, c, e)
		}
		if n, e := stock.Blocked(x.c, nil, -1); n != 0 || e != x.want {
			t.Errorf("%s: Blocked %d %d", name, n, e)
		}
		if n, e := stock.Stale(x.c, nil, -1, make([]int, 401)); n != 0 || e != x.want {
			t.Errorf("%s: Stale %d %d", name, n, e)
		}
	}
}

// P4.3: how many units have room.
func TestRoom(t *testing.T) {
	for _, x := range []struct {
		c    api.Coil
		want int
	}{
		{coil(0), 0}, {coil(7), 7}, {coil(1_000), 1_000}, {coil(7, piece("a", 7)), 0},
		{coil(10, piece("a", 4), piece("b", 2), piece("a", 1)), 3}, {coil(1_000, singles(999)...), 1},
	} {
		if n, e := stock.Room(x.c); n != x.want || e != api.OK {
			t.Errorf("%v: %d %d", x.c, n, e)
		}
	}
}

// P4.3: pieces go to the end.
func TestPush(t *testing.T) {
	for _, x := range []struct {
		c    api.Coil
		p    []api.Piece
		want api.Coil
	}{
		{coil(10, piece("a", 3)), nil, coil(10, piece("a", 3))},
		{coil(0), nil, coil(0)},
		{coil(10), []api.Piece{piece("a", 3)}, coil(10, piece("a", 3))},
		{coil(10, piece("a", 3)), []api.Piece{piece("a", 1), piece("b", 2)}, coil(10, piece("a", 4), piece("b", 2))},
		{coil(10, piece("a", 3)), []api.Piece{piece("b", 1), piece("b", 2)}, coil(10, piece("a", 3), piece("b", 3))},
		{coil(10, piece("a", 3)), []api.Piece{piece("a", 1), piece("a", 2), piece("a", 4)}, coil(10, piece("a", 10))},
		// only those that come to lie next to each other are one
		{coil(10, piece("a", 3), piece("b", 1)), []api.Piece{piece("a", 2), piece("b", 1), piece("b", 1), piece("a", 1)}, coil(10, piece("a", 3), piece("b", 1), piece("a", 2), piece("b", 2), piece("a", 1))},
		// a coil may have lots that are not there any more, and more units than its lots
		{coil(20, piece("z", 3)), []api.Piece{piece("a", 17)}, coil(20, piece("z", 3), piece("a", 17))},
		{coil(20, piece("z", 3)), []api.Piece{piece("b", 1)}, coil(20, piece("z", 3), piece("b", 1))},
		{coil(1_000), []api.Piece{piece("a", 1_000)}, coil(1_000, piece("a", 1_000))},
		{coil(1_000), singles(1_000), coil(1_000, singles(1_000)...)},
	} {
		if c, e := stock.Push(x.c, example(), x.p); !sameCoil(c, x.want) || e != api.OK {
			t.Errorf("%v %v: %v %d", x.c, x.p, c, e)
		}
	}
}

// badPushes is pieces that are no good for a coil with room for 7 (with lots of cans and bars), with their errors.
func badPushes() map[string]struct {
	p    []api.Piece
	want api.Errno
} {
	type row = struct {
		p    []api.Piece
		want api.Errno
	}
	return map[string]row{
		"a lot that is not there":     {[]api.Piece{piece("a", 1), piece("z", 1)}, api.ErrNone},
		"a lot of no name":            {[]api.Piece{piece("", 1)}, api.ErrNone},
		"a lot that is no key":        {[]api.Piece{piece("A", 1)}, api.ErrNone},
		"another product":             {[]api.Piece{piece("a", 1), piece("b", 1)}, api.ErrConflict},
		"no units":                    {[]api.Piece{piece("a", 1), piece("c", 0)}, api.ErrArg},
		"units below 0":               {[]api.Piece{piece("a", -1)}, api.ErrArg},
		"least units":                 {[]api.Piece{piece("a", math.MinInt)}, api.ErrArg},
		"too many units":              {[]api.Piece{piece("a", 1_001)}, api.ErrArg},
		"greatest units":              {[]api.Piece{piece("a", math.MaxInt), piece("c", math.MaxInt)}, api.ErrArg},
		"no room":                     {[]api.Piece{piece("c", 8)}, api.ErrFull},
		"no room for all":             {[]api.Piece{piece("a", 4), piece("c", 4)}, api.ErrFull},
		"no room for many":            {slices.Repeat([]api.Piece{piece("a", 1_000)}, 200_000), api.ErrFull},
		"none before another product": {[]api.Piece{piece("z", 0), piece("b", 1)}, api.ErrNone},
		"another product, then units": {[]api.Piece{piece("b", 0), piece("z", 1)}, api.ErrConflict},
		"the first one first":         {[]api.Piece{piece("a", 0), piece("b", 1), piece("z", 1)}, api.ErrArg},
		"each one before all":         {[]api.Piece{piece("a", 8), piece("b", 1)}, api.ErrConflict},
	}
}

// P4.3: what Push and Rotate refuse, and in which order.
func TestPushAndRotateErrors(t *testing.T) {
	c := coil(10, piece("a", 3))
	for name, x := range badPushes() {
		if d, e := stock.Push(c, mixed(), x.p); !isZero(d) || e != x.want {
			t.Errorf("%s: Push %v %d", name, d, e)
		}
		if d, e := stock.Rotate(c, mixed(), x.p); !isZero(d) || e != x.want {
			t.Errorf("%s: Rotate %v %d", name, d, e)
		}
		// a piece of no lot comes after them
		lost := coil(10, piece("z", 3))
		if d, e := stock.Rotate(lost, mixed(), x.p); !isZero(d) || e != x.want {
			t.Errorf("%s, and a lost lot: Rotate %v %d", name, d, e)
		}
	}
	for _, p := range [][]api.Piece{nil, {piece("a", 1)}} {
		for _, c := range []api.Coil{coil(10, piece("z", 3)), coil(10, piece("a", 3), piece("z", 1)), coil(10, piece("z", 1), piece("a", 1))} {
			if d, e := stock.Rotate(c, mixed(), p); !isZero(d) || e != api.ErrNone {
				t.Errorf("%v %v: %v %d", c, p, d, e)
			}
		}
	}
}

// P4.3: units go from the front.
func TestSell(t *testing.T) {
	c := coil(10, piece("a", 4), piece("b", 2), piece("a", 1))
	for many, x := range map[int]struct{ left, sold []api.Piece }{
		0: {c.Pieces, nil},
		1: {[]api.Piece{piece("a", 3), piece("b", 2), piece("a", 1)}, []api.Piece{piece("a", 1)}},
		4: {[]api.Piece{piece("b", 2), piece("a", 1)}, []api.Piece{piece("a", 4)}},
		5: {[]api.Piece{piece("b", 1), piece("a", 1)}, []api.Piece{piece("a", 4), piece("b", 1)}},
		6: {[]api.Piece{piece("a", 1)}, []api.Piece{piece("a", 4), piece("b", 2)}},
		7: {nil, c.Pieces},
	} {
		if d, p, e := stock.Sell(c, many); !sameCoil(d, coil(10, x.left...)) || !slices.Equal(p, x.sold) || e != api.OK {
			t.Errorf("%d: %v %v %d", many, d, p, e)
		}
	}
	for many, want := range map[int]api.Errno{
		-1: api.ErrArg, math.MinInt: api.ErrArg, 1_001: api.ErrArg, math.MaxInt: api.ErrArg, 8: api.ErrNone, 1_000: api.ErrNone,
	} {
		if d, p, e := stock.Sell(c, many); !isZero(d) || len(p) != 0 || e != want {
			t.Errorf("%d: %v %v %d", many, d, p, e)
		}
	}
	full := coil(1_000, piece("a", 1_000))
	if d, p, e := stock.Sell(full, 1_000); !sameCoil(d, coil(1_000)) || !slices.Equal(p, full.Pieces) || e != api.OK {
		t.Error(d, p, e)
	}
	if d, p, e := stock.Sell(coil(0), 0); !sameCoil(d, coil(0)) || len(p) != 0 || e != api.OK {
		t.Error(d, p, e)
	}
}

// P4.3: what expires first goes to the front.
func TestRotate(t *testing.T) {
	for _, x := range []struct {
		l    []api.Lot
		c    api.Coil
		p    []api.Piece
		want api.Coil
	}{
		{nil, coil(10), nil, coil(10)},
		{example(), coil(10, piece("a", 4), piece("b", 2)), nil, coil(10, piece("b", 2), piece("a", 4))},
		{example(), coil(10, piece("b", 2), piece("a", 4)), nil, coil(10, piece("b", 2), piece("a", 4))},
		{example(), coil(10), []api.Piece{piece("a", 1), piece("b", 2), piece("a", 3)}, coil(10, piece("b", 2), piece("a", 4))},
		{example(), coil(10, piece("a", 3), piece("b", 1), piece("a", 1)), []api.Piece{piece("a", 1), piece("b", 4)}, coil(10, piece("b", 5), piece("a", 5))},
		// a and d expire together, g first
		{mixed(), coil(20, piece("d", 2), piece("a", 1), piece("d", 1)), []api.Piece{piece("c", 2), piece("g", 3), piece("a", 1)}, coil(20, piece("g", 3), piece("c", 2), piece("a", 2), piece("d", 3))},
		// the coil may have a lot of another product in it
		{mixed(), coil(20, piece("a", 2), piece("b", 1)), nil, coil(20, piece("b", 1), piece("a", 2))},
		{example(), coil(1_000, singles(1_000)...), nil, coil(1_000, piece("b", 500), piece("a", 500))},
	} {
		if c, e := stock.Rotate(x.c, x.l, x.p); !sameCoil(c, x.want) || e != api.OK {
			t.Errorf("%v %v: %v %d", x.c, x.p, c, e)
		}
	}
}

// P4.3: how many units at the front can be sold no more.
func TestBlocked(t *testing.T) {
	for _, x := range []struct {
		c    api.Coil
		day  int
		want int
	}{
		{coil(10), 5, 0},
		{coil(10, piece("b", 2), piece("a", 4)), 7, 0}, {coil(10, piece("b", 2), piece("a", 4)), 8, 2},
		{coil(10, piece("b", 2), piece("a", 4)), 9, 2}, {coil(10, piece("b", 2), piece("a", 4)), 10, 6},
		{coil(10, piece("a", 4), piece("b", 2)), 8, 0},                // those behind block nothing
		{coil(10, piece("b", 1), piece("a", 4), piece("b", 2)), 8, 1}, // only those one after the other
		{coil(10, piece("b", 1), piece("a", 4), piece("b", 2)), 10, 7},
		{coil(10, piece("b", 1)), 0, 0}, {coil(10, piece("b", 1)), api.MaxDay, 1},
		{coil(1_000, piece("b", 1_000)), 8, 1_000},
	} {
		if n, e := stock.Blocked(x.c, example(), x.day); n != x.want || e != api.OK {
			t.Errorf("%v on %d: %d %d", x.c, x.day, n, e)
		}
	}
}

// P4.3: how many units will be sold too late, or not at all.
func TestStale(t *testing.T) {
	ab := coil(10, piece("a", 4), piece("b", 2))
	for _, x := range []struct {
		c     api.Coil
		from  int
		sales []int
		want  int
	}{
		{coil(10), 5, []int{1, 1}, 0},
		{ab, 6, []int{4, 0, 2}, 2},
		{ab, 6, []int{4, 2}, 0},              // b on day 7, its last one
		{ab, 6, []int{4, 1, 1}, 1},           // one of b on day 8
		{ab, 6, []int{6}, 0},                 // all at once
		{ab, 6, []int{0, 0, 0, 6}, 2},        // on day 9: b
		{ab, 6, []int{0, 0, 0, 0, 6}, 6},     // on day 10: all
		{ab, 6, []int{0, 0, 0, 0, 1_000}, 6}, // fewer, if there are not so many
		{ab, 6, []int{1_000, 1_000}, 0},
		{ab, 6, []int{4}, 0},             // b is left on day 7
		{ab, 6, []int{4, 0}, 2},          // b is left on day 8
		{ab, 6, []int{5, 0}, 1},          // one of b is left on day 8
		{ab, 6, []int{1, 0}, 2},          // of those left on day 8 b only
		{ab, 6, []int{1, 0, 0}, 2},       // on day 9
		{ab, 6, []int{1, 0, 0, 0}, 5},    // on day 10: all that are left
		{ab, 6, []int{0, 0, 0, 2, 2}, 4}, // two of a on day 9, two on day 10, and b is left
		{ab, api.MaxDay, []int{1_000}, 6},
		{ab, 0, slices.Repeat([]int{0}, 400), 6},
		{coil(10, piece("b", 2), piece("a", 4)), 8, []int{3}, 2}, // the units that are blocked are sold
		{coil(1_000, piece("b", 1_000)), 3, slices.Repeat([]int{100}, 4), 0},
		{coil(1_000, piece("b", 1_000)), 3, slices.Repeat([]int{100}, 5), 500}, // sold in time, and left too long
		{coil(1_000, piece("b", 1_000)), 3, slices.Repeat([]int{100}, 6), 500},
		{coil(1_000, piece("b", 1_000)), 3, slices.Repeat([]int{1}, 400), 995},
	} {
		if n, e := stock.Stale(x.c, example(), x.from, x.sales); n != x.want || e != api.OK {
			t.Errorf("%v from %d %v: %d %d", x.c, x.from, x.sales, n, e)
		}
	}
}

// P4.3: without sales there is no last day of them, and the day after it is the first one.
func TestStaleWithoutSales(t *testing.T) {
	c := coil(10, piece("a", 4), piece("b", 2))
	for from, want := range map[int]int{0: 0, 7: 0, 8: 2, 9: 2, 10: 6} {
		if n, e := stock.Stale(c, example(), from, nil); n != want || e != api.OK {
			t.Errorf("%d: %d %d", from, n, e)
		}
	}
}

// P4.3: a sale on the last day of all, and days after it.
func TestStaleAtTheEnd(t *testing.T) {
	l := []api.Lot{lot("a", "can", api.MaxDay, 5)}
	c := coil(10, piece("a", 5))
	for _, x := range []struct {
		sales []int
		want  int
	}{{[]int{5}, 0}, {[]int{4}, 1}, {[]int{0, 5}, 5}, {[]int{2, 0, 1}, 3}, {slices.Repeat([]int{0}, 400), 5}} {
		if n, e := stock.Stale(c, l, api.MaxDay, x.sales); n != x.want || e != api.OK {
			t.Errorf("%v: %d %d", x.sales, n, e)
		}
	}
}

// P4.3: what Blocked and Stale refuse, and in which order.
func TestBlockedAndStaleErrors(t *testing.T) {
	c := coil(10, piece("a", 4), piece("b", 2))
	bad := []int{-1, api.MaxDay + 1, math.MinInt, math.MaxInt}
	for _, day := range bad {
		if n, e := stock.Blocked(c, example(), day); n != 0 || e != api.ErrArg {
			t.Errorf("Blocked %d: %d %d", day, n, e)
		}
		if n, e := stock.Stale(c, example(), day, make([]int, 401)); n != 0 || e != api.ErrArg {
			t.Errorf("Stale %d: %d %d", day, n, e)
		}
		if n, e := stock.Stale(coil(3), nil, day, nil); n != 0 || e != api.ErrArg {
			t.Errorf("Stale %d: %d %d", day, n, e)
		}
	}
	for _, lost := range []api.Coil{coil(10, piece("z", 4)), coil(10, piece("a", 4), piece("z", 2)), coil(10, piece("z", 4), piece("a", 2))} {
		for _, day := range append(bad, 5) {
			if n, e := stock.Blocked(lost, example(), day); n != 0 || e != api.ErrNone {
				t.Errorf("Blocked %v: %d %d", lost, n, e)
			}
			if n, e := stock.Stale(lost, example(), day, []int{-1}); n != 0 || e != api.ErrNone {
				t.Errorf("Stale %v: %d %d", lost, n, e)
			}
		}
	}
	for name, x := range map[string]struct {
		sales []int
		want  api.Errno
	}{
		"too many":       {make([]int, 401), api.ErrLarge},
		"too many first": {slices.Repeat([]int{-1}, 401), api.ErrLarge},
		"below 0":        {[]int{5, -1}, api.ErrArg},
		"above 1,000":    {[]int{5, 1_001}, api.ErrArg},
		"least":          {[]int{math.MinInt}, api.ErrArg},
		"greatest":       {[]int{math.MaxInt, math.MaxInt}, api.ErrArg},
		"after all":      {[]int{1_000, 1_000, 1_001}, api.ErrArg},
	} {
		if n, e := stock.Stale(c, example(), 5, x.sales); n != 0 || e != x.want {
			t.Errorf("%s: %d %d", name, n, e)
		}
	}
}

// fill makes the pieces of units one after the other.
func fill(units []string) []api.Piece {
	var p []api.Piece
	for _, u := range units {
		if n := len(p); n > 0 && p[n-1].Lot == u {
			p[n-1].Many++
		} else {
			p = append(p, piece(u, 1))
		}
	}
	return p
}

// cans makes lots of cans, in which the order of Expires is not that of the Ids.
func cans(r *rand.Rand, n int) []api.Lot {
	var l []api.Lot
	for i := range n {
		l = append(l, lot(fmt.Sprintf("l%d", i), "can", r.Intn(8), r.Intn(9)))
	}
	return l
}

// units makes one list of the units of pieces.
func units(p []api.Piece) []string {
	var u []string
	for _, x := range p {
		u = append(u, slices.Repeat([]string{x.Lot}, x.Many)...)
	}
	return u
}

// P4.3: coils against lists of units.
func TestCoilsOfSome(t *testing.T) {
	r := rand.New(rand.NewSource(43))
	for range 500 {
		l := cans(r, 1+r.Intn(6))
		expires := func(id string) int {
			return l[slices.IndexFunc(l, func(x api.Lot) bool { return x.Id == id })].Expires
		}
		c := coil(5 + r.Intn(30))
		var in []string
		for range 12 {
			var p []api.Piece
			for range r.Intn(4) {
				p = append(p, piece(l[r.Intn(len(l))].Id, 1+r.Intn(4)))
			}
			next := slices.Concat(in, units(p))
			fits := len(next) <= c.Most
			d, e := c, api.OK
			switch r.Intn(3) {
			case 0:
				d, e = stock.Push(c, l, p)
			case 1:
				slices.SortFunc(next, func(a, b string) int {
					return cmp.Or(cmp.Compare(expires(a), expires(b)), cmp.Compare(a, b))
				})
				d, e = stock.Rotate(c, l, p)
			case 2:
				n := min(r.Intn(9), len(in))
				var sold []api.Piece
				d, sold, e = stock.Sell(c, n)
				if !slices.Equal(sold, fill(in[:n])) {
					t.Fatal(c, n, sold)
				}
				next, fits = in[n:], true
			}
			if !fits {
				if e != api.ErrFull || !isZero(d) {
					t.Fatal(c, p, d, e)
				}
				continue
			}
			c, in = d, next
			if e != api.OK || !sameCoil(c, coil(c.Most, fill(in)...)) || stock.CheckCoil(c) != api.OK {
				t.Fatalf("%v: %v %d, not %v", p, c, e, in)
			}
			looks(t, r, c, l, in, expires)
		}
	}
}

// looks compares Room, Blocked and Stale with what happens to the units of a coil one by one.
func looks(t *testing.T, r *rand.Rand, c api.Coil, l []api.Lot, in []string, expires func(string) int) {
	t.Helper()
	if n, e := stock.Room(c); n != c.Most-len(in) || e != api.OK {
		t.Fatal(c, n, e)
	}
	day := r.Intn(8)
	want := 0
	for want < len(in) && expires(in[want]) < day {
		want++
	}
	if n, e := stock.Blocked(c, l, day); n != want || e != api.OK {
		t.Fatalf("%v %v on %d: %d %d, not %d", l, c, day, n, e, want)
	}
	var sales []int
	for range 1 + r.Intn(5) {
		sales = append(sales, r.Intn(5))
	}
	want = 0
	today, sold := day, 0
	for _, u := range in {
		for today < day+len(sales) && sold == sales[today-day] {
			today, sold = today+1, 0
		}
		sold++
		if expires(u) < today {
			want++
		}
	}
	if n, e := stock.Stale(c, l, day, sales); n != want || e != api.OK {
		t.Fatalf("%v %v from %d %v: %d %d, not %d", l, c, day, sales, n, e, want)
	}
}
