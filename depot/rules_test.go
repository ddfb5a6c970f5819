package depot_test

import (
	"math"
	"reflect"
	"slices"
	"strconv"
	"strings"
	"sync"
	"testing"

	"coilrack/api"
	"coilrack/depot"
)

// last is the error of two results.
func last[T any](_ T, e api.Errno) api.Errno { return e }

// Z1 and Z6: no int makes a function panic or overflow.
func TestAllInts(t *testing.T) {
	ints := []int{
		math.MinInt, math.MinInt + 1, -api.MaxCents - 1, -api.MaxCents, -1_001, -1_000, -1, 0, 1, 2, 3, 10, 19, 20, 21, 100, 101, 1_000, 1_001, api.MaxDay, api.MaxDay + 1,
		100_000, 100_001, 1_000_000, 1_000_001, api.MaxCents - 1, api.MaxCents, api.MaxCents + 1, math.MaxInt - 1, math.MaxInt,
	}
	between := func(n, least, most int) bool { return least <= n && n <= most }
	for _, a := range ints {
		for _, b := range ints {
			paid := wallet([]int{b, 0}, []int{a, 0}, []int{0, 0})
			isPaid := between(a, 0, api.MaxCents) && between(b, 0, a)
			for name, x := range map[string]struct {
				e  api.Errno
				ok bool
			}{
				"CheckWallet": {depot.CheckWallet(paid), isPaid},
				"given":       {depot.CheckWallet(wallet([]int{0, 0}, []int{5, b}, []int{a, 5})), between(a, 0, api.MaxCents) && between(b, 0, api.MaxCents) && between(b-a, -5, 5)},
				"Credit":      {last(depot.Credit(paid, "b", a)), isPaid && a > 0},
				"Give":        {last(depot.Give(paid, "a", "b", 1)), isPaid && a > b},
				"Spend":       {last(depot.Spend(even(2, api.MaxCents, 0), "a", b)), between(b, 1, api.MaxCents)},
				"Balance":     {last(depot.Balance(paid)), isPaid},
				"Merge":       {last(depot.Merge(paid, even(2, 1, 1))), isPaid},
				"Print":       {last(depot.Print(paid)), isPaid},
				"CheckBasket": {depot.CheckBasket([]api.Ware{ware("a", a, "g")}, []api.Named{named("a", b)}), between(a, 0, 100_000) && between(b, 1, 100)},
				"CheckDeals":  {depot.CheckDeals(nil, []api.Deal{deal("a", "g", a, b)}), between(a, 2, 20) && between(b, 1, a-1)},
				"day":         {last(depot.Shelf([]api.Move{onDay(move("a", 1, "bar", b), a)})), between(a, 0, api.MaxDay) && b != 0 && between(b, -1_000, 1_000)},
				"No":          {last(depot.Together(moves(), []api.Move{move("a", a, "bar", b)})), a == 1 && b == 10 || a == 3 && b != 0 && between(b, -1_000, 1_000)},
				"Thefts":      {last(depot.Thefts(nil, []api.Named{named("a", a), named("b", b)})), between(a, 0, 1_000_000) && between(b, 0, 1_000_000)},
			} {
				if (x.e == api.OK) != x.ok {
					t.Errorf("%d %d: %s %d", a, b, name, x.e)
				}
			}
			depot.Session("wallet a b\ncredit a " + strconv.Itoa(a) + "\ngive a b " + strconv.Itoa(b) + "\nmachine " + strconv.Itoa(a) + " " + strconv.Itoa(b) + "\ncoin " + strconv.Itoa(a) + "\nload a " + strconv.Itoa(b))
		}
	}
}

// Z1: no string makes a function panic, and only keys are names.
func TestAllStrings(t *testing.T) {
	for _, s := range []string{"", "\x00", "\xff\xfe", "ä", "-", "9", "A", "!", " a", "a ", "a\n", ".", strings.Repeat("k", 200_000)} {
		for name, e := range map[string]api.Errno{
			"Empty": last(depot.Empty([]string{s})),
			"site":  depot.CheckWallet(api.Wallet{Sites: []string{s}, Rights: [][]int{{5}}, Used: []int{0}}),
			"ware":  depot.CheckBasket([]api.Ware{ware(s, 5, "g")}, nil),
			"group": depot.CheckDeals([]api.Ware{ware("a", 5, s)}, nil),
			"deal":  depot.CheckDeals(nil, []api.Deal{deal(s, "g", 2, 1)}),
			"of":    depot.CheckDeals(nil, []api.Deal{deal("a", s, 2, 1)}),
			"at":    last(depot.CheckShelf([]api.Move{move(s, 1, "bar", 5)})),
			"moved": last(depot.Shelf([]api.Move{move("a", 1, s, 5)})),
			"new":   last(depot.Together(nil, []api.Move{move("a", 1, s, 5)})),
			"count": last(depot.Thefts(nil, []api.Named{named(s, 5)})),
		} {
			if e != api.ErrName {
				t.Errorf("%.9q: %s %d", s, name, e)
			}
		}
		for name, e := range map[string]api.Errno{
			"Credit":   last(depot.Credit(three(), s, 5)),
			"from":     last(depot.Give(three(), s, "a", 5)),
			"to":       last(depot.Give(three(), "a", s, 5)),
			"Spend":    last(depot.Spend(three(), s, 5)),
			"Rights":   last(depot.Rights(three(), s)),
			"a basket": depot.CheckBasket(wares(), []api.Named{named(s, 5)}),
		} {
			if e != api.ErrNone {
				t.Errorf("%.9q: %s %d", s, name, e)
			}
		}
		for _, before := range []string{"", "wallet ", "wallet a\n", "wallet a\na ", "wallet a\na 0 "} {
			if w, _, e := depot.Parse(before + s); e == api.OK {
				t.Errorf("%q %.9q: %v", before, s, w)
			}
		}
		for _, before := range []string{"", "wallet ", "credit a ", "machine 80 3\npress ", "machine ", "coin ", "wallet a\ncredit "} {
			depot.Session(before + s)
			depot.Session(before + s + "\n")
		}
	}
}

// Z1: lists as long as they can be do not take long.
func TestLongLists(t *testing.T) {
	n := 200_000
	wide := make([]int, n)
	for name, e := range map[string]api.Errno{
		"sites":   last(depot.Empty(make([]string, n))),
		"a site":  depot.CheckWallet(api.Wallet{Sites: make([]string, n)}),
		"wares":   depot.CheckBasket(make([]api.Ware, n), nil),
		"basket":  depot.CheckBasket(wares(), make([]api.Named, n)),
		"deals":   depot.CheckDeals(wares(), make([]api.Deal, n)),
		"moves":   last(depot.CheckShelf(make([]api.Move, n))),
		"more":    last(depot.Together(nil, make([]api.Move, n))),
		"counted": last(depot.Thefts(nil, make([]api.Named, n))),
	} {
		if e != api.ErrLarge {
			t.Errorf("%s: %d", name, e)
		}
	}
	for name, w := range map[string]api.Wallet{
		"rows": {Sites: names(1), Rights: make([][]int, n), Used: []int{0}}, "a row": {Sites: names(1), Rights: [][]int{wide}, Used: []int{0}}, "used": {Sites: names(1), Rights: [][]int{{0}}, Used: wide},
	} {
		if e := depot.CheckWallet(w); e != api.ErrForm {
			t.Errorf("%s: %d", name, e)
		}
	}
}

// Z1: functions without objects at once.
func TestAtOnce(t *testing.T) {
	w, l, d, m := three(), wares(), deals(), moves()
	b := []api.Named{named("bar", 3), named("water", 2)}
	text := "wallet a b\ncredit a 9\nmachine 80 3\ncoin 100\npress a\n"
	var all sync.WaitGroup
	for range 8 {
		all.Go(func() {
			for range 50 {
				next, e := depot.Spend(w, "a", 9)
				isWallet(t, "Spend", next, e, changed(func(w *api.Wallet) { w.Used[0] = 29 }))
				next, e = depot.Merge(w, w)
				isWallet(t, "Merge", next, e, three())
				if n, keys, e := depot.Price(l, d, b); n != 190 || !slices.Equal(keys, []string{"pair", "three"}) || e != api.OK {
					t.Error(n, keys, e)
				}
				if l, e := depot.Thefts(m, b); !slices.Equal(l, []api.Named{named("bar", 3), named("pie", -2), named("water", -2)}) || e != api.OK {
					t.Error(l, e)
				}
				if s := depot.Session(text); s != "ok\nok 9\nok\nok 100\n2 0 0\nok\n" {
					t.Errorf("%q", s)
				}
			}
		})
	}
	all.Wait()
}

// Z2: arguments are not modified, and what is behind their length is not looked at.
func TestArguments(t *testing.T) {
	// w is three with wrong elements behind all of its lists.
	w := three()
	for i := range w.Rights {
		w.Rights[i] = append(w.Rights[i], -1)[:3]
	}
	w.Sites, w.Rights, w.Used = append(w.Sites, "")[:3], append(w.Rights, []int{-1})[:3], append(w.Used, -1)[:3]
	l, d := append(wares(), ware("", -1, "")), append(deals(), deal("", "", -1, -1))
	m, b := append(moves(), move("", 0, "", 0)), []api.Named{named("bar", 3), named("water", 2), named("", -1)}
	mixed := []api.Move{moves()[4], moves()[0], moves()[3], moves()[0], move("", 0, "", 0)}
	for name, e := range map[string]api.Errno{
		"CheckWallet": depot.CheckWallet(w),
		"Empty":       last(depot.Empty(w.Sites)),
		"Credit":      last(depot.Credit(w, "a", 5)),
		"Give":        last(depot.Give(w, "a", "b", 5)),
		"Spend":       last(depot.Spend(w, "a", 5)),
		"Rights":      last(depot.Rights(w, "a")),
		"Balance":     last(depot.Balance(w)),
		"Merge":       last(depot.Merge(w, changed(func(w *api.Wallet) { w.Rights[0][0], w.Used[0] = 200, 50 }))),
		"Merge to":    last(depot.Merge(changed(func(w *api.Wallet) { w.Rights[0][0], w.Used[0] = 200, 50 }), w)),
		"Knows":       last(depot.Knows(w, w)),
		"Print":       last(depot.Print(w)),
		"CheckBasket": depot.CheckBasket(l[:6], b[:2]),
		"CheckDeals":  depot.CheckDeals(l[:6], d[:2]),
		"CheckShelf":  last(depot.CheckShelf(m[:5])),
		"Shelf":       last(depot.Shelf(m[:5])),
		"Together":    last(depot.Together(m[:5], mixed[:4])),
		"Together, b": last(depot.Together(moves(), m[:5])),
		"Thefts":      last(depot.Thefts(m[:5], b[:2])),
	} {
		if e != api.OK {
			t.Errorf("%s: %d", name, e)
		}
	}
	if _, _, e := depot.Price(l[:6], d[:2], b[:2]); e != api.OK {
		t.Error(e)
	}
	if !reflect.DeepEqual(w, three()) || w.Sites[:4][3] != "" || !slices.Equal(w.Rights[:4][3], []int{-1}) || w.Used[:4][3] != -1 {
		t.Error(w, w.Sites[:4], w.Rights[:4], w.Used[:4])
	}
	for _, row := range w.Rights {
		if row[:4][3] != -1 {
			t.Error(row[:4])
		}
	}
	if !slices.Equal(l, append(wares(), ware("", -1, ""))) || !slices.Equal(d, append(deals(), deal("", "", -1, -1))) {
		t.Error(l, d)
	}
	if !slices.Equal(m, append(moves(), move("", 0, "", 0))) || !slices.Equal(b, []api.Named{named("bar", 3), named("water", 2), named("", -1)}) {
		t.Error(m, b)
	}
	if !slices.Equal(mixed, []api.Move{moves()[4], moves()[0], moves()[3], moves()[0], move("", 0, "", 0)}) {
		t.Error(mixed)
	}
}

// spoil changes all of a wallet, and what can be behind its lists.
func spoil(w api.Wallet) {
	for _, row := range append(w.Rights, w.Used) {
		for i := range row {
			row[i] = -7
		}
		_ = append(row, -7)
	}
	for i := range w.Sites {
		w.Sites[i] = "spoiled"
	}
	_ = append(w.Sites, "spoiled")
}

// Z2: results are new memory, also within each other.
func TestResultsAreNew(t *testing.T) {
	const text = "wallet a b c\na 100 7 11 20\nb 5 50 13 30\nc 3 2 40 1\n"
	other := changed(func(w *api.Wallet) { w.Used[2] = 2 })
	for name, f := range map[string]func(w api.Wallet) (api.Wallet, api.Errno){
		"Credit":   func(w api.Wallet) (api.Wallet, api.Errno) { return depot.Credit(w, "a", 5) },
		"Give":     func(w api.Wallet) (api.Wallet, api.Errno) { return depot.Give(w, "a", "b", 5) },
		"Spend":    func(w api.Wallet) (api.Wallet, api.Errno) { return depot.Spend(w, "a", 5) },
		"Merge":    func(w api.Wallet) (api.Wallet, api.Errno) { return depot.Merge(w, w) },
		"Merge a":  func(w api.Wallet) (api.Wallet, api.Errno) { return depot.Merge(w, other) },
		"Merge to": func(w api.Wallet) (api.Wallet, api.Errno) { return depot.Merge(other, w) },
		"Empty":    func(w api.Wallet) (api.Wallet, api.Errno) { return depot.Empty(w.Sites) },
		"Parse":    func(api.Wallet) (api.Wallet, api.Errno) { w, _, e := depot.Parse(text); return w, e },
	} {
		w := three()
		first, e := f(w)
		second, _ := f(w)
		if e != api.OK || !reflect.DeepEqual(first, second) {
			t.Fatal(name, e, first, second)
		}
		for i, row := range first.Rights { // what is appended to a list changes no other one
			_ = append(row, -1-i)
		}
		if !reflect.DeepEqual(first, second) {
			t.Errorf("%s: %v, not %v", name, first, second)
		}
		spoil(first)
		if third, _ := f(w); !reflect.DeepEqual(w, three()) || !reflect.DeepEqual(second, third) || other.Used[2] != 2 || other.Sites[0] != "a" {
			t.Errorf("%s: %v %v %v", name, w, second, other)
		}
	}
	l := moves()
	for _, pair := range [][2][]api.Move{{l, nil}, {nil, l}, {l, l}} {
		all, e := depot.Together(pair[0], pair[1])
		if e != api.OK {
			t.Fatal(e)
		}
		for i := range all {
			all[i] = api.Move{}
		}
		if !slices.Equal(l, moves()) {
			t.Fatal(l)
		}
	}
	shelf, _ := depot.Shelf(l)
	shelf[0] = named("x", 9)
	if again, e := depot.Shelf(l); !slices.Equal(again, []api.Named{named("bar", 6), named("cake", 0), named("pie", -2)}) || e != api.OK {
		t.Error(again, e)
	}
}

// Z5: an empty and a nil list are the same.
func TestEmptyLists(t *testing.T) {
	for name, e := range map[string]api.Errno{
		"CheckBasket": depot.CheckBasket([]api.Ware{}, []api.Named{}),
		"CheckDeals":  depot.CheckDeals([]api.Ware{}, []api.Deal{}),
		"CheckShelf":  last(depot.CheckShelf([]api.Move{})),
		"Shelf":       last(depot.Shelf([]api.Move{})),
		"Together":    last(depot.Together([]api.Move{}, []api.Move{})),
		"Thefts":      last(depot.Thefts([]api.Move{}, []api.Named{})),
	} {
		if e != api.OK {
			t.Errorf("%s: %d", name, e)
		}
	}
	if e := depot.CheckWallet(api.Wallet{Sites: names(1), Rights: [][]int{{}}, Used: []int{0}}); e != api.ErrForm {
		t.Error(e)
	}
	if n, keys, e := depot.Price([]api.Ware{}, []api.Deal{}, []api.Named{}); n != 0 || len(keys) != 0 || e != api.OK {
		t.Error(n, keys, e)
	}
}

// Z7: the same arguments give the same results.
func TestSame(t *testing.T) {
	var l []api.Ware
	var d []api.Deal
	var m []api.Move
	for i, x := range manyNamed(20, 1) {
		l = append(l, ware(x.Key, 100*i, x.Key))
		d = append(d, deal(x.Key, x.Key, 2, 1))
		m = append(m, move("a", i+1, x.Key, 1+i))
	}
	b := manyNamed(20, 3)
	price, keys, e := depot.Price(l, d, b)
	shelf, f := depot.Shelf(m)
	missing, g := depot.Thefts(m, manyNamed(30, 40))
	if len(keys) != 20 || len(shelf) != 20 || len(missing) != 30 || e != api.OK || f != api.OK || g != api.OK {
		t.Fatal(price, keys, shelf, missing, e, f, g)
	}
	text := "wallet " + strings.Join(names(12), " ") + "\n" + strings.Repeat("credit a 5\ngive a l 1\nmerge l a\nmerge f l\n", 5)
	said := depot.Session(text)
	for range 50 {
		if n, k, e := depot.Price(l, d, b); n != price || !slices.Equal(k, keys) || e != api.OK {
			t.Fatal(n, k, e)
		}
		if s, e := depot.Shelf(m); !slices.Equal(s, shelf) || e != api.OK {
			t.Fatal(s, e)
		}
		if s, e := depot.Thefts(m, manyNamed(30, 40)); !slices.Equal(s, missing) || e != api.OK {
			t.Fatal(s, e)
		}
		if s := depot.Session(text); s != said {
			t.Fatalf("%q", s)
		}
	}
}

// Whole values at the bounds: what makes them, and what takes them.
func TestWholeValues(t *testing.T) {
	w := even(api.MaxKiosks, api.MaxCents, 0)
	for _, site := range w.Sites {
		next, e := depot.Credit(w, site, 1)
		isNoWallet(t, site, next, e, api.ErrFull)
		if next, e = depot.Spend(w, site, api.MaxCents); e != api.OK {
			t.Fatal(e)
		}
		w, e = depot.Merge(w, parsed(t, printed(t, next)))
		isWallet(t, site, w, e, next)
	}
	if n, e := depot.Balance(w); n != 0 || e != api.OK {
		t.Error(n, e)
	}
	full, e := depot.Together(manyMoves("a", 1_000), manyMoves("b", 1_000))
	if s, f := depot.Shelf(full); !slices.Equal(s, []api.Named{named("bar", 2_000_000)}) || e != api.OK || f != api.OK {
		t.Error(s, e, f)
	}
	if s, e := depot.Thefts(full, []api.Named{named("bar", 1_000_000)}); !slices.Equal(s, []api.Named{named("bar", 1_000_000)}) || e != api.OK {
		t.Error(s, e)
	}
	if l, e := depot.Together(full, []api.Move{move("c", 1, "bar", 5)}); len(l) != 0 || e != api.ErrLarge {
		t.Error(len(l), e)
	}
}
