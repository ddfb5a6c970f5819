package depot_test

import (
	"cmp"
	"math"
	"math/rand"
	"slices"
	"testing"

	"coilrack/api"
	"coilrack/depot"
)

func move(site string, no int, ware string, many int) api.Move {
	return api.Move{Site: site, No: no, Day: 3, Ware: ware, Many: many}
}

// onDay is a move on another day.
func onDay(m api.Move, day int) api.Move {
	m.Day = day
	return m
}

// moves is what happened to a shelf.
func moves() []api.Move {
	return []api.Move{move("a", 1, "bar", 10), move("a", 2, "cake", 5), move("b", 1, "bar", -4), move("b", 2, "pie", -2), move("b", 3, "cake", -5)}
}

// manyMoves makes n moves of a site.
func manyMoves(site string, n int) []api.Move {
	var l []api.Move
	for i := range n {
		l = append(l, move(site, i+1, "bar", 1_000))
	}
	return l
}

// badMoves is lists of moves with the number of the one that is wrong.
func badMoves() map[string]struct {
	l    []api.Move
	at   int
	want api.Errno
} {
	good := move("b", 1, "bar", 5)
	return map[string]struct {
		l    []api.Move
		at   int
		want api.Errno
	}{
		"too many":                   {manyMoves("a", api.MaxMoves+1), 0, api.ErrLarge},
		"large before names":         {make([]api.Move, api.MaxMoves+1), 0, api.ErrLarge},
		"no site":                    {[]api.Move{good, move("", 2, "bar", 5)}, 1, api.ErrName},
		"a site that is no key":      {[]api.Move{move("B", 1, "bar", 5)}, 0, api.ErrName},
		"the same twice":             {[]api.Move{good, good}, 1, api.ErrOrder},
		"a falling number":           {[]api.Move{good, move("b", 2, "bar", 5), move("b", 1, "bar", 5)}, 2, api.ErrOrder},
		"a falling site":             {[]api.Move{good, move("a", 1, "bar", 5)}, 1, api.ErrOrder},
		"a site again":               {[]api.Move{good, move("c", 1, "bar", 5), move("b", 2, "bar", 5)}, 2, api.ErrOrder},
		"number 0":                   {[]api.Move{move("b", 0, "bar", 5)}, 0, api.ErrArg},
		"a number below 0":           {[]api.Move{move("b", -1, "bar", 5)}, 0, api.ErrArg},
		"the least number":           {[]api.Move{move("b", math.MinInt, "bar", 5)}, 0, api.ErrArg},
		"the greatest number":        {[]api.Move{good, move("b", math.MaxInt, "bar", 5)}, 1, api.ErrArg},
		"number 2 first":             {[]api.Move{move("b", 2, "bar", 5)}, 0, api.ErrArg},
		"a number is missing":        {[]api.Move{good, move("b", 3, "bar", 5)}, 1, api.ErrArg},
		"a site goes on":             {[]api.Move{good, move("c", 2, "bar", 5)}, 1, api.ErrArg},
		"a day below 0":              {[]api.Move{good, onDay(move("b", 2, "bar", 5), -1)}, 1, api.ErrArg},
		"a day after all":            {[]api.Move{onDay(good, api.MaxDay+1)}, 0, api.ErrArg},
		"no ware":                    {[]api.Move{good, move("b", 2, "", 5)}, 1, api.ErrName},
		"a ware that is no key":      {[]api.Move{move("b", 1, "bar!", 5)}, 0, api.ErrName},
		"nothing":                    {[]api.Move{good, move("b", 2, "bar", 0)}, 1, api.ErrArg},
		"too much":                   {[]api.Move{good, move("c", 1, "bar", 1_001)}, 1, api.ErrArg},
		"too much goes":              {[]api.Move{good, move("c", 1, "bar", -1_001)}, 1, api.ErrArg},
		"the least int":              {[]api.Move{move("b", 1, "bar", math.MinInt)}, 0, api.ErrArg},
		"the greatest int":           {[]api.Move{move("b", 1, "bar", math.MaxInt)}, 0, api.ErrArg},
		"site before order":          {[]api.Move{good, move("A", 1, "bar", 5)}, 1, api.ErrName},
		"order before number":        {[]api.Move{good, move("b", 0, "bar", 5)}, 1, api.ErrOrder},
		"number before ware":         {[]api.Move{move("b", 2, "", 5)}, 0, api.ErrArg},
		"day before ware":            {[]api.Move{onDay(move("b", 1, "", 5), -1)}, 0, api.ErrArg},
		"ware before many":           {[]api.Move{move("b", 1, "", 0)}, 0, api.ErrName},
		"the first one's many first": {[]api.Move{move("b", 1, "bar", 0), move("", 1, "bar", 5)}, 0, api.ErrArg},
		"the first one's ware first": {[]api.Move{good, move("b", 2, "", 5), move("b", 3, "bar", 0)}, 1, api.ErrName},
		"the last one":               {append(manyMoves("a", api.MaxMoves-1), move("a", api.MaxMoves, "bar", 0)), api.MaxMoves - 1, api.ErrArg},
	}
}

// P8.5: what is wrong with moves, which all functions with them ask first.
func TestCheckShelf(t *testing.T) {
	for name, x := range badMoves() {
		if n, e := depot.CheckShelf(x.l); n != x.at || e != x.want {
			t.Errorf("%s: CheckShelf %d %d, not %d %d", name, n, e, x.at, x.want)
		}
		if l, e := depot.Shelf(x.l); len(l) != 0 || e != x.want {
			t.Errorf("%s: Shelf %v %d, not %d", name, l, e, x.want)
		}
		for _, b := range [][]api.Move{nil, moves(), make([]api.Move, api.MaxMoves+1), {move("", 0, "", 0)}} {
			if l, e := depot.Together(x.l, b); len(l) != 0 || e != x.want {
				t.Errorf("%s: Together %v %d, not %d", name, l, e, x.want)
			}
		}
		for _, counted := range [][]api.Named{nil, make([]api.Named, api.MaxWares+1), {named("", -1)}} {
			if l, e := depot.Thefts(x.l, counted); len(l) != 0 || e != x.want {
				t.Errorf("%s: Thefts %v %d, not %d", name, l, e, x.want)
			}
		}
	}
	for name, l := range map[string][]api.Move{
		"none": nil, "some": moves(), "2,000": manyMoves("a", api.MaxMoves),
		"bounds":        {onDay(move("a", 1, "b", -1_000), 0), onDay(move("a", 2, "b", 1_000), api.MaxDay), onDay(move("a", 3, "b", 1), 5)},
		"longer sites":  {move("a", 1, "bar", 1), move("a-", 1, "bar", 1), move("a-", 2, "bar", 1), move("aa", 1, "bar", -1)},
		"days can fall": {onDay(move("a", 1, "bar", 1), 7), onDay(move("a", 2, "bar", 1), 6)},
		"10 and more":   manyMoves("a", 12),
	} {
		if n, e := depot.CheckShelf(l); n != 0 || e != api.OK {
			t.Errorf("%s: %d %d", name, n, e)
		}
	}
}

// P8.5: Shelf.
func TestShelf(t *testing.T) {
	for name, x := range map[string]struct {
		l    []api.Move
		want []api.Named
	}{
		"nothing":      {nil, nil},
		"some":         {moves(), []api.Named{named("bar", 6), named("cake", 0), named("pie", -2)}},
		"one":          {moves()[:1], []api.Named{named("bar", 10)}},
		"many":         {manyMoves("a", api.MaxMoves), []api.Named{named("bar", 2_000_000)}},
		"sorted":       {[]api.Move{move("a", 1, "z", 1), move("a", 2, "y", 1), move("a", 3, "a", 1), move("b", 1, "y", 1)}, []api.Named{named("a", 1), named("y", 2), named("z", 1)}},
		"nothing left": {[]api.Move{move("a", 1, "z", 9), move("a", 2, "z", -9)}, []api.Named{named("z", 0)}},
	} {
		if l, e := depot.Shelf(x.l); !slices.Equal(l, x.want) || e != api.OK {
			t.Errorf("%s: %v %d, not %v", name, l, e, x.want)
		}
	}
}

// P8.5: Together.
func TestTogether(t *testing.T) {
	a, b := moves()[:2], moves()[2:]
	mixed := []api.Move{moves()[4], moves()[0], moves()[2], moves()[3], moves()[1], moves()[0], moves()[4], moves()[4]}
	for name, x := range map[string]struct{ a, b, want []api.Move }{
		"nothing":               {nil, nil, nil},
		"nothing is new":        {moves(), nil, moves()},
		"all is new":            {nil, moves(), moves()},
		"two sites":             {a, b, moves()},
		"two sites, the second": {b, a, moves()},
		"the same":              {moves(), moves(), moves()},
		"some of the same":      {moves()[:4], moves()[1:], moves()},
		"out of order, twice":   {nil, mixed, moves()},
		"out of order, to a":    {a, mixed, moves()},
		"what comes after":      {moves()[:3], []api.Move{moves()[4], moves()[3]}, moves()},
		"another site between":  {[]api.Move{move("a", 1, "bar", 1), move("c", 1, "bar", 1)}, []api.Move{move("c", 2, "bar", 2), move("b", 1, "bar", 3)}, []api.Move{move("a", 1, "bar", 1), move("b", 1, "bar", 3), move("c", 1, "bar", 1), move("c", 2, "bar", 2)}},
		"as many as can be":     {manyMoves("a", 1_000), manyMoves("b", 1_000), append(manyMoves("a", 1_000), manyMoves("b", 1_000)...)},
		"as many in both":       {manyMoves("a", api.MaxMoves), manyMoves("a", api.MaxMoves), manyMoves("a", api.MaxMoves)},
	} {
		if l, e := depot.Together(x.a, x.b); !slices.Equal(l, x.want) || e != api.OK {
			t.Errorf("%s: %v %d, not %v", name, l, e, x.want)
		}
	}
}

// P8.5: what Together does not put together.
func TestTogetherErrors(t *testing.T) {
	a := moves()
	for name, x := range map[string]struct {
		a, b []api.Move
		want api.Errno
	}{
		"too many in b":              {a, manyMoves("a", api.MaxMoves+1), api.ErrLarge},
		"large before a conflict":    {a, slices.Repeat([]api.Move{move("a", 1, "bar", 9)}, api.MaxMoves+1), api.ErrLarge},
		"another number of units":    {a, []api.Move{move("a", 1, "bar", 9)}, api.ErrConflict},
		"another ware":               {a, []api.Move{move("b", 3, "bar", -5)}, api.ErrConflict},
		"another day":                {a, []api.Move{onDay(a[3], 4)}, api.ErrConflict},
		"two of b":                   {nil, []api.Move{a[0], a[1], move("a", 1, "bar", 9)}, api.ErrConflict},
		"two of b, between the same": {a, []api.Move{a[0], a[0], move("a", 1, "bar", 11), a[0]}, api.ErrConflict},
		"a conflict before a name":   {a, []api.Move{move("", 1, "bar", 5), move("b", 1, "bar", 4)}, api.ErrConflict},
		"two without a site":         {a, []api.Move{move("", 1, "bar", 5), move("", 1, "bar", 4)}, api.ErrConflict},
		"a conflict before large":    {manyMoves("a", 1_500), append(manyMoves("b", 1_500), move("a", 1, "pie", 1)), api.ErrConflict},
		"too many together":          {manyMoves("a", 1_001), manyMoves("b", 1_000), api.ErrLarge},
		"large before a wrong one":   {manyMoves("a", 1_001), append(manyMoves("b", 999), move("", 1, "bar", 5)), api.ErrLarge},
		"no site":                    {a, []api.Move{move("", 1, "bar", 5)}, api.ErrName},
		"a site that is no key":      {a, []api.Move{move("C", 1, "bar", 5)}, api.ErrName},
		"no ware":                    {a, []api.Move{move("a", 3, "", 5)}, api.ErrName},
		"a number is missing":        {a, []api.Move{move("a", 4, "bar", 5)}, api.ErrArg},
		"a first one is missing":     {a, []api.Move{move("c", 2, "bar", 5)}, api.ErrArg},
		"number 0":                   {a, []api.Move{move("a", 0, "bar", 5)}, api.ErrArg},
		"a wrong day":                {a, []api.Move{onDay(move("a", 3, "bar", 5), -1)}, api.ErrArg},
		"nothing":                    {a, []api.Move{move("a", 3, "bar", 0)}, api.ErrArg},
		"the first one of two":       {a, []api.Move{move("b", 4, "bar", 0), move("a", 3, "", 5)}, api.ErrName}, // in the order of sites
	} {
		if l, e := depot.Together(x.a, x.b); len(l) != 0 || e != x.want {
			t.Errorf("%s: %v %d, not %d", name, l, e, x.want)
		}
	}
}

// P8.5: Together has all moves once, in whatever order and parts they come.
func TestTogetherInAnyOrder(t *testing.T) {
	r := rand.New(rand.NewSource(85))
	for range 1_000 {
		var all []api.Move
		for _, site := range names(r.Intn(4)) {
			for no := range r.Intn(6) {
				all = append(all, onDay(move(site, no+1, names(3)[r.Intn(3)], 1+r.Intn(9)-10*r.Intn(2)), r.Intn(9)))
			}
		}
		var known []api.Move
		for len(known) < len(all) {
			var part []api.Move
			for _, i := range r.Perm(len(all)) {
				if r.Intn(2) == 0 {
					part = append(part, all[i])
				}
			}
			next, e := depot.Together(known, part)
			want, ok := union(known, part)
			if ok != (e == api.OK) || !slices.Equal(next, want) || !ok && e != api.ErrArg {
				t.Fatal(known, part, next, e, want)
			}
			if ok {
				known = next
			}
			if back, e := depot.Together(known, part); ok && (!slices.Equal(back, known) || e != api.OK) {
				t.Fatal(known, part, back, e)
			}
		}
		if !slices.Equal(known, all) {
			t.Fatal(known, all)
		}
	}
}

// union is all moves of both lists, sorted, each once; false if one of a site is missing.
func union(a, b []api.Move) ([]api.Move, bool) {
	set := map[api.Move]bool{}
	for _, m := range append(slices.Clone(a), b...) {
		set[m] = true
	}
	var l []api.Move
	for m := range set {
		if m.No > 1 && !hasNo(set, m.Site, m.No-1) {
			return nil, false
		}
		l = append(l, m)
	}
	slices.SortFunc(l, func(a, b api.Move) int {
		if a.Site != b.Site {
			return cmp.Compare(a.Site, b.Site)
		}
		return a.No - b.No
	})
	return l, true
}

func hasNo(set map[api.Move]bool, site string, no int) bool {
	for m := range set {
		if m.Site == site && m.No == no {
			return true
		}
	}
	return false
}

// P8.5: Thefts.
func TestThefts(t *testing.T) {
	for name, x := range map[string]struct {
		l       []api.Move
		counted []api.Named
		want    []api.Named
	}{
		"nothing":                {nil, nil, nil},
		"nothing is counted":     {moves(), nil, []api.Named{named("bar", 6), named("pie", -2)}},
		"nothing came":           {nil, []api.Named{named("bar", 6), named("pie", 0)}, []api.Named{named("bar", -6)}},
		"one is missing":         {moves(), []api.Named{named("bar", 5), named("cake", 0), named("pie", 0)}, []api.Named{named("bar", 1), named("pie", -2)}},
		"all is there":           {moves()[:2], []api.Named{named("bar", 10), named("cake", 5)}, nil},
		"too many are there":     {moves(), []api.Named{named("bar", 9)}, []api.Named{named("bar", -3), named("pie", -2)}},
		"wares that never came":  {moves()[:1], []api.Named{named("apple", 1), named("bar", 10), named("zoo", 2)}, []api.Named{named("apple", -1), named("zoo", -2)}},
		"0 of what never came":   {moves()[:1], []api.Named{named("apple", 0), named("bar", 10)}, nil},
		"as many as can be":      {moves()[:1], []api.Named{named("bar", 1_000_000)}, []api.Named{named("bar", 10-1_000_000)}},
		"200 wares":              {nil, manyNamed(200, 0), nil},
		"below 0, and something": {[]api.Move{move("b", 1, "pie", -2)}, []api.Named{named("pie", 3)}, []api.Named{named("pie", -5)}},
	} {
		if l, e := depot.Thefts(x.l, x.counted); !slices.Equal(l, x.want) || e != api.OK {
			t.Errorf("%s: %v %d, not %v", name, l, e, x.want)
		}
	}
	for name, x := range map[string]struct {
		counted []api.Named
		want    api.Errno
	}{
		"201":                        {manyNamed(201, 5), api.ErrLarge},
		"large before names":         {make([]api.Named, 201), api.ErrLarge},
		"no name":                    {[]api.Named{named("", 5)}, api.ErrName},
		"no key":                     {[]api.Named{named("a", 5), named("b c", 5)}, api.ErrName},
		"equal":                      {[]api.Named{named("a", 5), named("a", 5)}, api.ErrOrder},
		"falling":                    {[]api.Named{named("b", 5), named("a", 5)}, api.ErrOrder},
		"below 0":                    {[]api.Named{named("a", 5), named("b", -1)}, api.ErrArg},
		"too many":                   {[]api.Named{named("a", 1_000_001)}, api.ErrArg},
		"the least int":              {[]api.Named{named("a", math.MinInt)}, api.ErrArg},
		"the greatest int":           {[]api.Named{named("a", math.MaxInt)}, api.ErrArg},
		"name before order":          {[]api.Named{named("b", 5), named("A", 5)}, api.ErrName},
		"order before many":          {[]api.Named{named("b", 5), named("a", -1)}, api.ErrOrder},
		"the first one's many first": {[]api.Named{named("b", -1), named("", 5)}, api.ErrArg},
	} {
		if l, e := depot.Thefts(moves(), x.counted); len(l) != 0 || e != x.want {
			t.Errorf("%s: %v %d, not %d", name, l, e, x.want)
		}
	}
}

// P8.5: what is counted, and what is missing of it, is what is on the shelf.
func TestTheftsAddUp(t *testing.T) {
	r := rand.New(rand.NewSource(86))
	for range 500 {
		var l []api.Move
		for no := range r.Intn(9) {
			l = append(l, move("a", no+1, names(4)[r.Intn(4)], 1+r.Intn(5)))
		}
		sum := map[string]int{}
		for _, m := range l {
			sum[m.Ware] += m.Many
		}
		var counted []api.Named
		for _, key := range names(5) {
			if r.Intn(2) == 0 {
				counted = append(counted, named(key, r.Intn(6)))
				sum[key] -= counted[len(counted)-1].Many
			}
		}
		missing, e := depot.Thefts(l, counted)
		if e != api.OK || !slices.IsSortedFunc(missing, func(a, b api.Named) int { return cmp.Compare(a.Key, b.Key) }) {
			t.Fatal(l, counted, missing, e)
		}
		for _, x := range missing {
			if x.Many == 0 || x.Many != sum[x.Key] {
				t.Fatal(l, counted, missing)
			}
			delete(sum, x.Key)
		}
		for key, n := range sum {
			if n != 0 {
				t.Fatal(l, counted, missing, key, n)
			}
		}
	}
}
