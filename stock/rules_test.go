package stock_test

import (
	"math"
	"reflect"
	"slices"
	"strings"
	"sync"
	"testing"

	"coilrack/api"
	"coilrack/stock"
)

// Z1 and Z6: no int makes a function panic or overflow.
func TestAllInts(t *testing.T) {
	ints := []int{
		math.MinInt, math.MinInt + 1, -1, 0, 1, 2, 5, 400, 1_000, 1_001, api.MaxDay, api.MaxDay + 1, api.MaxUnits, math.MaxInt - 1, math.MaxInt,
	}
	for _, a := range ints {
		for _, b := range ints {
			l := []api.Lot{lot("a", "can", a, b)}
			if e := stock.CheckLots(l); (e == api.OK) != (a >= 0 && a <= api.MaxDay && b >= 0 && b <= api.MaxUnits) {
				t.Errorf("%v: %d", l, e)
			}
			c := coil(a, piece("a", b))
			if e := stock.CheckCoil(c); (e == api.OK) != (a >= 0 && a <= 1_000 && b >= 1 && b <= a) {
				t.Errorf("%v: %d", c, e)
			}
			needs := []api.Need{need("x", "can", a), need("y", "can", b)}
			if e := stock.CheckNeeds(needs); (e == api.OK) != (min(a, b) >= 0 && max(a, b) <= api.MaxUnits) {
				t.Errorf("%v: %d", needs, e)
			}
			for _, m := range [][]api.Lot{l, example()} {
				stock.Count(m, "can")
				stock.Fresh(m, "can", a, b)
				stock.Pick(m, "can", a, b, a)
				stock.Spoil(m, a)
				stock.Kit(m, needs, a, b)
				stock.Kit(m, needs, 3, 2)
				stock.Short(m, needs, b, a)
				stock.Short(m, needs, 3, 2)
			}
			for _, d := range []api.Coil{c, coil(10, piece("a", 4), piece("b", 2))} {
				p := []api.Piece{piece("a", a), piece("b", b), piece("a", a)}
				stock.Room(d)
				stock.Push(d, example(), p)
				stock.Rotate(d, example(), p)
				stock.Sell(d, a)
				stock.Blocked(d, example(), a)
				stock.Stale(d, example(), a, []int{b, b})
			}
			s := storeOf(t, example()...)
			s.Take(lot("c", "can", a, b))
			s.Send("x", "can", a, b, 0)
			s.Send("x", "can", 7, 3, 0)
			s.Return("x", []api.Piece{piece("b", a), piece("b", b)})
			s.Waste("x", []api.Piece{piece("a", b), piece("b", a), piece("b", a)})
		}
	}
}

// Z1: no string makes a function panic, and only keys are names.
func TestAllStrings(t *testing.T) {
	long := strings.Repeat("k", 200_000)
	for _, s := range []string{"", "\x00", "\xff\xfe", "ä", "-", "9", "A", " a", "a ", "a\n", long} {
		if e := stock.CheckLots([]api.Lot{lot(s, "can", 3, 5)}); e != api.ErrName {
			t.Errorf("%.9q: lot %d", s, e)
		}
		if e := stock.CheckNeeds([]api.Need{need("x", s, 5)}); e != api.ErrName {
			t.Errorf("%.9q: need %d", s, e)
		}
		if e := stock.CheckCoil(coil(5, piece(s, 1))); e != api.ErrName {
			t.Errorf("%.9q: coil %d", s, e)
		}
		if _, e := stock.Count(example(), s); e != api.ErrName {
			t.Errorf("%.9q: Count %d", s, e)
		}
		x := storeOf(t, example()...)
		if _, e := x.Send(s, "can", 1, 0, 0); e != api.ErrName {
			t.Errorf("%.9q: Send %d", s, e)
		}
		if e := x.Waste(s, nil); e != api.ErrName {
			t.Errorf("%.9q: Waste %d", s, e)
		}
		if _, e := x.Where(s); e != api.ErrNone {
			t.Errorf("%.9q: Where %d", s, e)
		}
	}
}

// Z1: lists as long as they can be do not take long.
func TestLongLists(t *testing.T) {
	p := slices.Repeat([]api.Piece{piece("l000", 1)}, 200_000)
	l := manyLots(api.MaxLots)
	s := storeOf(t, l...)
	send(t, s, "x", "can", api.MaxUnits)
	if e := s.Return("x", p); e != api.ErrRule {
		t.Error(e)
	}
	if e := s.Return("x", p[:api.MaxUnits]); e != api.OK {
		t.Error(e)
	}
	holds(t, s, l...)
	if c, e := stock.Push(coil(1_000), l, p); !isZero(c) || e != api.ErrFull {
		t.Error(c, e)
	}
	if c, e := stock.Rotate(coil(1_000), l, p[:1_000]); !sameCoil(c, coil(1_000, piece("l000", 1_000))) || e != api.OK {
		t.Error(c, e)
	}
	if n, e := stock.Stale(coil(1_000, piece("l000", 1_000)), l, 0, slices.Repeat([]int{1}, 400)); n != 0 || e != api.OK {
		t.Error(n, e)
	}
}

// Z1: functions without objects at once.
func TestAtOnce(t *testing.T) {
	l, needs, c := mixed(), []api.Need{need("x", "bar", 3), need("x", "can", 5), need("y", "bar", 5)}, coil(10, piece("a", 4), piece("c", 2))
	var w sync.WaitGroup
	for range 8 {
		w.Go(func() {
			for range 50 {
				if k, _, e := stock.Kit(l, needs, 5, 0); len(k) != 3 || !slices.Equal(k[0].Pieces, []api.Piece{piece("f", 1), piece("b", 1)}) || e != api.OK {
					t.Error(k, e)
				}
				if d, e := stock.Rotate(c, l, nil); !sameCoil(d, coil(10, piece("c", 2), piece("a", 4))) || e != api.OK {
					t.Error(d, e)
				}
				if p, e := stock.Pick(l, "can", 5, 5, 0); !slices.Equal(p, []api.Piece{piece("c", 4), piece("a", 1)}) || e != api.OK {
					t.Error(p, e)
				}
			}
		})
	}
	w.Wait()
}

// Z2: arguments are not modified, and what is behind their length is not looked at.
func TestArguments(t *testing.T) {
	lots := append(mixed(), lot("", "", -1, -1))
	needs := []api.Need{need("x", "bar", 3), need("x", "can", 5), need("y", "bar", 5), need("", "", -1)}
	in := []api.Piece{piece("a", 3), piece("c", 2), piece("z", -1)}
	put := []api.Piece{piece("c", 1), piece("a", 1), piece("z", -1)}
	sales := []int{1, 2, -1}
	l, n, c, p := lots[:8], needs[:3], coil(20, in[:2]...), put[:2]
	stock.Count(l, "can")
	stock.Fresh(l, "can", 5, 0)
	stock.Pick(l, "can", 5, 5, 0)
	stock.Spoil(l, 9)
	stock.Kit(l, n, 5, 0)
	stock.Short(l, n, 5, 0)
	stock.Room(c)
	for _, f := range []func(api.Coil, []api.Lot, []api.Piece) (api.Coil, api.Errno){stock.Push, stock.Rotate} {
		if d, e := f(c, l, p); len(d.Pieces) == 0 || e != api.OK {
			t.Error(d, e)
		}
	}
	if _, e := stock.Push(c, l, []api.Piece{piece("c", 1)}); e != api.OK { // joined with the last one
		t.Error(e)
	}
	stock.Sell(c, 4)
	stock.Blocked(c, l, 8)
	stock.Stale(c, l, 8, sales[:2])
	s := storeOf(t, example()...)
	send(t, s, "x", "can", 10)
	back := []api.Piece{piece("b", 1), piece("a", 1), piece("b", 1), piece("z", -1)}
	if s.Return("x", back[:3]) != api.OK || s.Waste("x", back[:3]) != api.OK {
		t.Error("there are enough")
	}
	if !slices.Equal(lots, append(mixed(), lot("", "", -1, -1))) {
		t.Error(lots)
	}
	if !slices.Equal(needs, []api.Need{need("x", "bar", 3), need("x", "can", 5), need("y", "bar", 5), need("", "", -1)}) {
		t.Error(needs)
	}
	if !slices.Equal(in, []api.Piece{piece("a", 3), piece("c", 2), piece("z", -1)}) || !slices.Equal(put, []api.Piece{piece("c", 1), piece("a", 1), piece("z", -1)}) {
		t.Error(in, put)
	}
	if !slices.Equal(sales, []int{1, 2, -1}) || !slices.Equal(back, []api.Piece{piece("b", 1), piece("a", 1), piece("b", 1), piece("z", -1)}) {
		t.Error(sales, back)
	}
}

// scratch changes all elements of a list, and adds to it.
func scratch(p []api.Piece) {
	for i := range p {
		p[i] = piece("scratch", 99)
	}
	_ = append(p, piece("scratch", 99))
}

// Z2: changing a result, or adding to it, changes nothing else.
func TestResultsAreNew(t *testing.T) {
	l := mixed()
	rest, gone, _ := stock.Spoil(l, 9)
	scratch(gone)
	rest[0].Many = 99
	left, gone, _ := stock.Spoil(l, 0)
	left[0].Many = 99
	scratch(gone)
	if !slices.Equal(l, mixed()) {
		t.Error(l)
	}
	needs := []api.Need{need("w", "bar", 2), need("x", "can", 5), need("y", "can", 5), need("z", "bar", 2)}
	want, _, _ := stock.Kit(l, needs, 5, 0)
	for i := range needs {
		k, rest, _ := stock.Kit(l, needs, 5, 0)
		scratch(k[i].Pieces)
		rest[0].Many = 99
		for j := range needs {
			if j != i && !slices.Equal(k[j].Pieces, want[j].Pieces) {
				t.Error(i, j, k)
			}
		}
	}
	if !slices.Equal(l, mixed()) {
		t.Error(l)
	}
}

// Z2: what coils give out is new memory.
func TestCoilsAreNew(t *testing.T) {
	c := coil(10, piece("a", 3), piece("b", 2))
	put := []api.Piece{piece("b", 1), piece("a", 1)}
	for _, many := range []int{0, 2, 3, 4, 5} {
		d, sold, _ := stock.Sell(c, many)
		want := slices.Clone(sold)
		scratch(d.Pieces)
		if !slices.Equal(sold, want) {
			t.Error(many, sold)
		}
		scratch(sold)
	}
	for _, p := range [][]api.Piece{nil, put} {
		d, _ := stock.Push(c, example(), p)
		scratch(d.Pieces)
		d, _ = stock.Rotate(c, example(), p)
		scratch(d.Pieces)
	}
	d, _ := stock.Push(coil(10), example(), put)
	scratch(d.Pieces)
	if !sameCoil(c, coil(10, piece("a", 3), piece("b", 2))) || !slices.Equal(put, []api.Piece{piece("b", 1), piece("a", 1)}) {
		t.Error(c, put)
	}
}

// Z2: a store gives out nothing that it keeps.
func TestStoreCopies(t *testing.T) {
	s, other := storeOf(t, mixed()...), storeOf(t, mixed()...)
	p, e := s.Send("x", "can", 6, 5, 0)
	if e != api.OK {
		t.Fatal(e)
	}
	scratch(p)
	want := []api.Lot{
		lot("a", "can", 9, 3), lot("b", "bar", 8, 3), lot("c", "can", 7, 0), lot("d", "can", 9, 2),
		lot("e", "can", 6, 0), lot("f", "bar", 6, 1), lot("g", "can", 4, 6), lot("h", "tea", 20, 0),
	}
	for range 2 {
		holds(t, s, want...)
		l := s.Lots()
		l[0] = lot("z", "bar", 1, 1)
		_ = append(l, l[0])
		lies(t, s, "c", at("x", 4))
		w, _ := s.Where("c")
		w[0] = at("y", 9)
		_ = append(w, w[0])
	}
	l := s.Lots()
	send(t, s, "y", "bar", 1)
	if !slices.Equal(l, want) {
		t.Error("lots that were given out changed", l)
	}
	holds(t, other, mixed()...)
	lies(t, other, "c")
}

// Z7: the same arguments give the same results.
func TestSame(t *testing.T) {
	needs := []api.Need{
		need("w", "can", 9), need("x", "bar", 3), need("x", "can", 5), need("x", "nut", 1), need("x", "tea", 2), need("y", "bar", 5), need("y", "can", 6), need("z", "tea", 1),
	}
	s := storeOf(t, mixed()...)
	for _, place := range []string{"q", "c", "z", "a", "m", "k"} {
		send(t, s, place, "can", 2)
	}
	kits, rest, _ := stock.Kit(mixed(), needs, 5, 0)
	short, _ := stock.Short(mixed(), needs, 5, 0)
	where, _ := s.Where("g")
	for range 50 {
		k, l, e := stock.Kit(mixed(), needs, 5, 0)
		if !reflect.DeepEqual(k, kits) || !slices.Equal(l, rest) || e != api.OK {
			t.Fatal(k, l, e)
		}
		if n, e := stock.Short(mixed(), needs, 5, 0); !slices.Equal(n, short) || e != api.OK {
			t.Fatal(n, e)
		}
		if w, e := s.Where("g"); !slices.Equal(w, where) || e != api.OK {
			t.Fatal(w, e)
		}
	}
}

// P4.2 to P4.4: one function takes what another one makes, at the bounds too.
func TestWholeValues(t *testing.T) {
	l := manyLots(api.MaxLots)
	rest, _, e := stock.Spoil(l, api.MaxDay)
	if e != api.OK || stock.CheckLots(rest) != api.OK {
		t.Fatal(e)
	}
	_, rest, e = stock.Kit(rest, manyNeeds(api.MaxNeeds, 2_000), 0, api.MaxDay)
	if e != api.OK || stock.CheckLots(rest) != api.OK {
		t.Fatal(e)
	}
	if n, e := stock.Count(rest, "can"); n != api.MaxLots*api.MaxUnits-1_000_000 || e != api.OK {
		t.Error(n, e)
	}
	s := storeOf(t, rest...)
	p, e := s.Send("x", "can", 1_000, 0, 0)
	if e != api.OK {
		t.Fatal(e)
	}
	c, e := stock.Push(coil(1_000), s.Lots(), p)
	if e != api.OK {
		t.Fatal(e)
	}
	if _, e := stock.Push(c, s.Lots(), []api.Piece{piece("l400", 1)}); e != api.ErrFull {
		t.Error(e)
	}
	c, e = stock.Rotate(c, s.Lots(), nil)
	if e != api.OK {
		t.Fatal(e)
	}
	_, sold, e := stock.Sell(c, 1_000)
	if e != api.OK || s.Return("x", sold) != api.OK {
		t.Error(sold, e)
	}
	holds(t, s, rest...)
}
