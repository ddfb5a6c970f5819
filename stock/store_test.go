package stock_test

import (
	"cmp"
	"fmt"
	"maps"
	"math"
	"math/rand"
	"slices"
	"testing"

	"coilrack/api"
	"coilrack/stock"
)

// storeOf makes a store that took lots.
func storeOf(t *testing.T, l ...api.Lot) *stock.Store {
	t.Helper()
	s := stock.NewStore()
	if s == nil {
		t.Fatal("no store")
	}
	for _, x := range l {
		if e := s.Take(x); e != api.OK {
			t.Fatal(x, e)
		}
	}
	return s
}

// send sends units to a place; there are enough.
func send(t *testing.T, s *stock.Store, place, product string, many int) {
	t.Helper()
	if _, e := s.Send(place, product, many, 0, 0); e != api.OK {
		t.Fatal(place, product, many, e)
	}
}

// holds says whether a store has these lots.
func holds(t *testing.T, s *stock.Store, want ...api.Lot) {
	t.Helper()
	if l := s.Lots(); !slices.Equal(l, want) {
		t.Errorf("Lots: %v, not %v", l, want)
	}
}

// lies says whether the units of a lot are at these places.
func lies(t *testing.T, s *stock.Store, lot string, want ...api.Named) {
	t.Helper()
	if w, e := s.Where(lot); !slices.Equal(w, want) || e != api.OK {
		t.Errorf("Where %s: %v %d, not %v", lot, w, e, want)
	}
}

func at(place string, many int) api.Named { return api.Named{Key: place, Many: many} }

// P4.4: a new store is empty.
func TestNewStore(t *testing.T) {
	s := storeOf(t)
	holds(t, s)
	if w, e := s.Where("a"); len(w) != 0 || e != api.ErrNone {
		t.Error(w, e)
	}
	if p, e := s.Send("x", "can", 1, 0, 0); len(p) != 0 || e != api.ErrNone {
		t.Error(p, e)
	}
	if p, e := s.Send("x", "can", 0, 0, 0); len(p) != 0 || e != api.OK {
		t.Error(p, e)
	}
	other := storeOf(t, example()...)
	holds(t, s)
	holds(t, other, example()...)
}

// P4.4: Take keeps lots by Id, in whatever order they come.
func TestTake(t *testing.T) {
	s := storeOf(t, lot("m", "can", 3, 5), lot("b", "bar", 9, 0), lot("z", "can", 0, api.MaxUnits), lot("a", "can", api.MaxDay, 1), lot("n", "can", 3, 5))
	all := []api.Lot{lot("a", "can", api.MaxDay, 1), lot("b", "bar", 9, 0), lot("m", "can", 3, 5), lot("n", "can", 3, 5), lot("z", "can", 0, api.MaxUnits)}
	holds(t, s, all...)
	for name, x := range map[string]struct {
		l    api.Lot
		want api.Errno
	}{
		"no id":                    {lot("", "can", 3, 5), api.ErrName},
		"an id that is no key":     {lot("A", "can", 3, 5), api.ErrName},
		"a product that is no key": {lot("c", "a can", 3, 5), api.ErrName},
		"product before expires":   {lot("c", "", -1, -1), api.ErrName},
		"expires below 0":          {lot("c", "can", -1, 5), api.ErrArg},
		"expires after all days":   {lot("c", "can", api.MaxDay+1, 5), api.ErrArg},
		"many below 0":             {lot("c", "can", 3, -1), api.ErrArg},
		"too many units":           {lot("c", "can", 3, api.MaxUnits+1), api.ErrArg},
		"greatest many":            {lot("c", "can", 3, math.MaxInt), api.ErrArg},
		"it is there":              {lot("m", "can", 3, 5), api.ErrTwice},
		"another one with its id":  {lot("b", "tea", 8, 1), api.ErrTwice},
		"range before twice":       {lot("b", "tea", -1, 1), api.ErrArg},
		"product before twice":     {lot("b", "", 8, 1), api.ErrName},
	} {
		if e := s.Take(x.l); e != x.want {
			t.Errorf("%s: %d", name, e)
		}
	}
	holds(t, s, all...)
	lies(t, s, "m")
	if _, e := s.Where("c"); e != api.ErrNone {
		t.Error("a lot that was refused is there", e)
	}
}

// P4.4: a store with as many lots as there can be.
func TestTakeFull(t *testing.T) {
	full := manyLots(api.MaxLots)
	s := storeOf(t, full...)
	for _, x := range []struct {
		l    api.Lot
		want api.Errno
	}{
		{lot("a", "can", 3, 5), api.ErrFull}, {lot("z", "can", 3, 0), api.ErrFull},
		{full[7], api.ErrTwice}, {lot("z", "", 3, 5), api.ErrName}, {lot("z", "can", 3, -1), api.ErrArg},
	} {
		if e := s.Take(x.l); e != x.want {
			t.Errorf("%v: %d", x.l, e)
		}
	}
	holds(t, s, full...)
	send(t, s, "x", "can", api.MaxUnits) // a lot without units is one too
	if e := s.Take(lot("z", "can", 3, 5)); e != api.ErrFull {
		t.Error(e)
	}
}

// P4.4: Send is Pick, and the units are at the place then.
func TestSend(t *testing.T) {
	s := storeOf(t, example()...)
	if p, e := s.Send("x", "can", 6, 3, 2); !slices.Equal(p, []api.Piece{piece("b", 5), piece("a", 1)}) || e != api.OK {
		t.Error(p, e)
	}
	holds(t, s, lot("a", "can", 9, 4), lot("b", "can", 7, 0))
	if p, e := s.Send("w", "can", 3, 9, 0); !slices.Equal(p, []api.Piece{piece("a", 3)}) || e != api.OK {
		t.Error(p, e)
	}
	if p, e := s.Send("x", "can", 0, 9, 0); len(p) != 0 || e != api.OK {
		t.Error(p, e)
	}
	if p, e := s.Send("v", "can", 0, 9, 0); len(p) != 0 || e != api.OK {
		t.Error(p, e)
	}
	for name, x := range map[string]struct {
		place, product  string
		many, day, left int
		want            api.Errno
	}{
		"no place":               {"", "can", 1, 3, 2, api.ErrName},
		"a place that is no key": {"X", "can", 1, 3, 2, api.ErrName},
		"place before others":    {"9", "can", -1, -1, -1, api.ErrName},
		"no product":             {"x", "", -1, -1, -1, api.ErrName},
		"day below 0":            {"x", "can", 1, -1, 2, api.ErrArg},
		"day after all":          {"x", "can", 1, api.MaxDay + 1, 2, api.ErrArg},
		"left below 0":           {"x", "can", 1, 3, -1, api.ErrArg},
		"left after all":         {"x", "can", 1, 3, api.MaxDay + 1, api.ErrArg},
		"many below 0":           {"x", "can", -1, 3, 2, api.ErrArg},
		"too many at once":       {"x", "can", api.MaxUnits + 1, 3, 2, api.ErrArg},
		"more than there are":    {"x", "can", 2, 3, 2, api.ErrNone},
		"not fresh":              {"x", "can", 1, 9, 1, api.ErrNone},
		"another product":        {"x", "bar", 1, 3, 2, api.ErrNone},
	} {
		if p, e := s.Send(x.place, x.product, x.many, x.day, x.left); len(p) != 0 || e != x.want {
			t.Errorf("%s: %v %d", name, p, e)
		}
	}
	holds(t, s, lot("a", "can", 9, 1), lot("b", "can", 7, 0))
	lies(t, s, "a", at("w", 3), at("x", 1))
	lies(t, s, "b", at("x", 5))
}

// away makes a store from which 6 cans went to x and 3 to w: 1 and 3 of a, 5 of b.
func away(t *testing.T) *stock.Store {
	t.Helper()
	s := storeOf(t, append(example(), lot("c", "bar", 5, 4))...)
	send(t, s, "x", "can", 6)
	send(t, s, "w", "can", 3)
	return s
}

// P4.4: what comes back can be sent again.
func TestReturn(t *testing.T) {
	s := away(t)
	if e := s.Return("x", []api.Piece{piece("b", 2), piece("a", 1), piece("b", 1)}); e != api.OK {
		t.Error(e)
	}
	holds(t, s, lot("a", "can", 9, 2), lot("b", "can", 7, 3), lot("c", "bar", 5, 4))
	lies(t, s, "a", at("w", 3)) // x has none any more
	lies(t, s, "b", at("x", 2))
	lies(t, s, "c")
	if e := s.Return("x", nil); e != api.OK {
		t.Error(e)
	}
	if e := s.Return("nowhere", nil); e != api.OK {
		t.Error(e)
	}
	if p, e := s.Send("v", "can", 4, 3, 0); !slices.Equal(p, []api.Piece{piece("b", 3), piece("a", 1)}) || e != api.OK {
		t.Error(p, e)
	}
	lies(t, s, "a", at("v", 1), at("w", 3))
	lies(t, s, "b", at("v", 3), at("x", 2))
}

// P4.4: what is thrown away is nowhere.
func TestWaste(t *testing.T) {
	s := away(t)
	if e := s.Waste("x", []api.Piece{piece("b", 2), piece("a", 1), piece("b", 1)}); e != api.OK {
		t.Error(e)
	}
	holds(t, s, lot("a", "can", 9, 1), lot("b", "can", 7, 0), lot("c", "bar", 5, 4))
	lies(t, s, "a", at("w", 3))
	lies(t, s, "b", at("x", 2))
	if e := s.Waste("x", nil); e != api.OK {
		t.Error(e)
	}
	if e := s.Waste("x", []api.Piece{piece("b", 2)}); e != api.OK {
		t.Error(e)
	}
	lies(t, s, "b")
	if e := s.Return("x", []api.Piece{piece("b", 1)}); e != api.ErrRule {
		t.Error(e)
	}
	if e := s.Take(lot("b", "can", 7, 5)); e != api.ErrTwice {
		t.Error("a lot stays, even if all of it is wasted", e)
	}
	holds(t, s, lot("a", "can", 9, 1), lot("b", "can", 7, 0), lot("c", "bar", 5, 4))
}

// P4.4: what Return and Waste refuse, in which order, and that nothing changes then.
func TestReturnAndWasteErrors(t *testing.T) {
	s := away(t)
	for name, x := range map[string]struct {
		place string
		p     []api.Piece
		want  api.Errno
	}{
		"no place":                {"", []api.Piece{piece("b", 1)}, api.ErrName},
		"a place that is no key":  {"X", nil, api.ErrName},
		"place before others":     {"9", []api.Piece{piece("z", 0)}, api.ErrName},
		"a lot that is not there": {"x", []api.Piece{piece("b", 1), piece("z", 1)}, api.ErrNone},
		"no lot":                  {"x", []api.Piece{piece("", 1)}, api.ErrNone},
		"none before units":       {"x", []api.Piece{piece("z", 0)}, api.ErrNone},
		"no units":                {"x", []api.Piece{piece("b", 1), piece("a", 0)}, api.ErrArg},
		"units below 0":           {"x", []api.Piece{piece("b", -1)}, api.ErrArg},
		"least units":             {"x", []api.Piece{piece("b", math.MinInt)}, api.ErrArg},
		"units before rule":       {"nowhere", []api.Piece{piece("b", 0)}, api.ErrArg},
		"more than at the place":  {"x", []api.Piece{piece("a", 1), piece("b", 6)}, api.ErrRule},
		"with earlier pieces":     {"x", []api.Piece{piece("b", 3), piece("a", 1), piece("b", 3)}, api.ErrRule},
		"greatest units":          {"x", []api.Piece{piece("b", 1), piece("b", math.MaxInt)}, api.ErrRule},
		"at another place":        {"w", []api.Piece{piece("b", 1)}, api.ErrRule},
		"of another place too":    {"x", []api.Piece{piece("a", 2)}, api.ErrRule},
		"at no place":             {"nowhere", []api.Piece{piece("b", 1)}, api.ErrRule},
		"in the store":            {"x", []api.Piece{piece("c", 1)}, api.ErrRule},
		"the first one first":     {"x", []api.Piece{piece("b", 6), piece("b", 0), piece("z", 1)}, api.ErrRule},
		"the second one first":    {"x", []api.Piece{piece("b", 5), piece("b", 0), piece("z", 1)}, api.ErrArg},
	} {
		if e := s.Return(x.place, x.p); e != x.want {
			t.Errorf("%s: Return %d", name, e)
		}
		if e := s.Waste(x.place, x.p); e != x.want {
			t.Errorf("%s: Waste %d", name, e)
		}
	}
	holds(t, s, lot("a", "can", 9, 1), lot("b", "can", 7, 0), lot("c", "bar", 5, 4))
	lies(t, s, "a", at("w", 3), at("x", 1))
	lies(t, s, "b", at("x", 5))
	lies(t, s, "c")
	if e := s.Waste("x", []api.Piece{piece("b", 4), piece("a", 1), piece("b", 1)}); e != api.OK {
		t.Error("all that is there", e)
	}
}

// P4.4: places are sorted, and a lot that is not there has none.
func TestWhere(t *testing.T) {
	s := storeOf(t, lot("a", "can", 9, 100))
	for i, place := range []string{"z", "b", "a0", "a", "a-", "m"} {
		send(t, s, place, "can", i+1)
	}
	send(t, s, "a", "can", 10)
	lies(t, s, "a", at("a", 14), at("a-", 5), at("a0", 3), at("b", 2), at("m", 6), at("z", 1))
	for _, id := range []string{"b", "", "A", "can"} {
		if w, e := s.Where(id); len(w) != 0 || e != api.ErrNone {
			t.Errorf("%q: %v %d", id, w, e)
		}
	}
}

// book is what a store has to hold: units by lot, in the store, at places, and wasted.
type book struct {
	lots   []api.Lot
	taken  map[string]int
	at     map[string]map[string]int
	wasted map[string]int
}

// agrees says whether a store is what the book says, and whether all of it adds up.
func (b *book) agrees(t *testing.T, s *stock.Store) {
	t.Helper()
	l := s.Lots()
	if !slices.Equal(l, b.lots) {
		t.Fatalf("%v, not %v", l, b.lots)
	}
	for _, x := range l {
		var want []api.Named
		sum := x.Many + b.wasted[x.Id]
		for _, place := range slices.Sorted(maps.Keys(b.at[x.Id])) {
			if n := b.at[x.Id][place]; n > 0 {
				want = append(want, at(place, n))
			}
		}
		w, e := s.Where(x.Id)
		if !slices.Equal(w, want) || e != api.OK {
			t.Fatalf("%s: %v %d, not %v", x.Id, w, e, want)
		}
		for _, y := range w {
			sum += y.Many
		}
		if sum != b.taken[x.Id] {
			t.Fatalf("%s: %d of %d", x.Id, sum, b.taken[x.Id])
		}
	}
}

// take writes down a lot that came.
func (b *book) take(l api.Lot) {
	i, _ := slices.BinarySearchFunc(b.lots, l, func(a, b api.Lot) int { return cmp.Compare(a.Id, b.Id) })
	b.lots = slices.Insert(b.lots, i, l)
	b.taken[l.Id] = l.Many
	b.at[l.Id] = map[string]int{}
}

// some makes pieces of lots that there are, and of some that there are not.
func (b *book) some(r *rand.Rand) []api.Piece {
	var p []api.Piece
	for range r.Intn(4) {
		p = append(p, piece(fmt.Sprintf("l%02d", r.Intn(12)), r.Intn(4)))
	}
	return p
}

// remove writes down pieces that went from a place, or returns what is wrong.
func (b *book) remove(place string, p []api.Piece) api.Errno {
	left := map[string]int{}
	for id, places := range b.at {
		left[id] = places[place]
	}
	for _, x := range p {
		if _, ok := left[x.Lot]; !ok {
			return api.ErrNone
		}
		if x.Many < 1 {
			return api.ErrArg
		}
		left[x.Lot] -= x.Many
		if left[x.Lot] < 0 {
			return api.ErrRule
		}
	}
	for id, n := range left {
		b.at[id][place] = n
	}
	return api.OK
}

// P4.4: whatever happens, what is in the store, at places, and wasted of a lot is what was taken of it.
func TestStoresOfSome(t *testing.T) {
	r := rand.New(rand.NewSource(44))
	for range 120 {
		s := stock.NewStore()
		b := &book{taken: map[string]int{}, at: map[string]map[string]int{}, wasted: map[string]int{}}
		for range 80 {
			step(t, r, s, b)
			b.agrees(t, s)
		}
	}
}

// step does something with a store, and writes it down.
func step(t *testing.T, r *rand.Rand, s *stock.Store, b *book) {
	t.Helper()
	place := []string{"x", "y", "z"}[r.Intn(3)]
	switch r.Intn(4) {
	case 0:
		l := lot(fmt.Sprintf("l%02d", r.Intn(12)), []string{"bar", "can"}[r.Intn(2)], r.Intn(8), r.Intn(9))
		_, twice := b.taken[l.Id]
		if e := s.Take(l); twice != (e == api.ErrTwice) || !twice && e != api.OK {
			t.Fatal(l, e)
		}
		if !twice {
			b.take(l)
		}
	case 1:
		many, day, left := r.Intn(9), r.Intn(5), r.Intn(3)
		rest := slices.Clone(b.lots)
		want, ok := take(rest, "can", many, day+left)
		p, e := s.Send(place, "can", many, day, left)
		if !slices.Equal(p, want) || ok != (e == api.OK) || !ok && e != api.ErrNone {
			t.Fatalf("%v: %d on %d, %d left: %v %d", b.lots, many, day, left, p, e)
		}
		if ok {
			b.lots = rest
			for _, x := range p {
				b.at[x.Lot][place] += x.Many
			}
		}
	case 2:
		p := b.some(r)
		want := b.remove(place, p)
		if e := s.Return(place, p); e != want {
			t.Fatal(place, p, e, want)
		}
		for _, x := range p {
			i := slices.IndexFunc(b.lots, func(l api.Lot) bool { return l.Id == x.Lot })
			if want == api.OK {
				b.lots[i].Many += x.Many
			}
		}
	case 3:
		p := b.some(r)
		want := b.remove(place, p)
		if e := s.Waste(place, p); e != want {
			t.Fatal(place, p, e, want)
		}
		for _, x := range p {
			if want == api.OK {
				b.wasted[x.Lot] += x.Many
			}
		}
	}
}
