package till_test

import (
	"math"
	"slices"
	"strings"
	"sync"
	"testing"

	"coilrack/api"
	"coilrack/till"
)

// Z1 and Z6: no int makes a function panic or overflow.
func TestAllInts(t *testing.T) {
	ints := []int{
		math.MinInt, math.MinInt + 1, -1_000_000_000_000_001, -1_000_000_000_000_000, -api.MaxCents - 1, -api.MaxCents, -1, 0, 1, 2, 60, 61, 1_000, 1_001,
		api.MaxDay, api.MaxDay + 1, 10_000, 10_001, 100_000, 100_001, 1_000_000, 1_000_001, api.End - 1, api.End, api.MaxBagCents, api.MaxBagCents + 1,
		api.MaxCents, api.MaxCents + 1, 1_000_000_000_000_000, 1_000_000_000_000_001, math.MaxInt - 1, math.MaxInt,
	}
	between := func(n, least, most int) bool { return least <= n && n <= most }
	for _, a := range ints {
		for _, b := range ints {
			for name, x := range map[string]struct {
				e  api.Errno
				ok bool
			}{
				"CheckBags":  {till.CheckBags([]api.Bag{bag(a, "ann", b, 0)}), between(a, 0, api.MaxDay) && between(b, 0, api.MaxBagCents)},
				"CheckTiers": {till.CheckTiers([]api.Tier{tier(0, 5), tier(a, b)}), between(a, 1, api.MaxCents) && between(b, 0, 10_000)},
				"CheckClaim": {till.CheckClaim(claim(a, b, 0)), between(a, 0, api.End-1) && between(b, 1, 100_000)},
				"CheckEntry": {till.CheckEntry(entry(3, "x", line("a", a), line("b", b))), a != 0 && between(a, -api.MaxCents, api.MaxCents) && b == -a},
				"Chance":     {last(till.Chance(a, b)), between(a, 0, 60) && between(b, 0, a)},
				"Even":       {last(till.Even(a, b)), between(a, -1_000_000_000_000_000, 1_000_000_000_000_000) && between(b, 1, 1_000_000_000)},
				"Taxes":      {last(till.Taxes([]api.Charge{charge(a, b), charge(a, b)})), between(a, 0, 10_000) && between(b, 0, api.MaxBagCents)},
				"Shares":     {last(till.Shares(a, []api.Named{named("b", b), named("a", 1)})), between(a, 0, api.MaxCents) && between(b, 0, 1_000_000)},
				"Refund":     {last(till.Refund(claim(5, 5, 5), nil, a, b)), between(a, 0, 100_000) && between(b, 0, 100_000)},
				"a fault":    {last(till.Refund(claim(5, 5, 5), []api.Window{window(a, b)}, 5, 5)), 0 <= a && a <= b && b <= api.End},
				"Commission": {last(till.Commission(manyTiers(20), a)), between(a, 0, api.MaxCents)},
				"Suspects":   {last(till.Suspects(offsOf("ann", -1, 2), a)), between(a, 1, 1_000_000)},
			} {
				if (x.e == api.OK) != x.ok {
					t.Errorf("%d %d: %s %d", a, b, name, x.e)
				}
			}
			if net, tax, e := till.Net(a, b); (e == api.OK) != (between(a, 0, api.MaxCents) && between(b, 0, 10_000)) || min(net, tax) < 0 {
				t.Errorf("%d %d: Net %d %d %d", a, b, net, tax, e)
			}
			x := ledgerOf(t, moves(3, "a", "b", 5))
			x.Post(moves(a, "a", "b", b))
			x.Post(entry(3, "x", line("a", a), line("b", b), line("c", 1)))
			x.Cancel(a)
		}
	}
}

// last is the error of two results.
func last[T any](_ T, e api.Errno) api.Errno { return e }

// Z1: no string makes a function panic, and only keys are names.
func TestAllStrings(t *testing.T) {
	for _, s := range []string{"", "\x00", "\xff\xfe", "ä", "-", "9", "A", " a", "a ", "a\n", ".", strings.Repeat("k", 200_000)} {
		x := ledgerOf(t, moves(3, "a", "b", 5))
		for name, e := range map[string]api.Errno{
			"bag":     till.CheckBags([]api.Bag{bag(1, s, 5, 5)}),
			"partner": last(till.Shares(5, []api.Named{named(s, 1)})),
			"account": till.CheckEntry(moves(3, "a", s, 5)),
			"Balance": last(x.Balance(s)),
			"Lines":   last(x.Lines(s)),
		} {
			if e != api.ErrName {
				t.Errorf("%.9q: %s %d", s, name, e)
			}
		}
		till.CheckEntry(entry(3, s, line("a", 5), line("b", -5)))
		till.Read(s)
		till.Read("entry " + s)
		till.Read("entry 3 x\n  " + s)
		till.Read("cancel " + s)
	}
}

// Z1: lists as long as they can be do not take long.
func TestLongLists(t *testing.T) {
	n := 200_000
	for name, e := range map[string]api.Errno{
		"bags":     till.CheckBags(make([]api.Bag, n)),
		"tiers":    till.CheckTiers(make([]api.Tier, n)),
		"charges":  last(till.Taxes(make([]api.Charge, n))),
		"partners": last(till.Shares(5, make([]api.Named, n))),
		"faults":   last(till.Refund(claim(5, 5, 5), make([]api.Window, n), 5, 5)),
		"lines":    till.CheckEntry(entry(3, "x", make([]api.Line, n)...)),
	} {
		if e != api.ErrLarge {
			t.Errorf("%s: %d", name, e)
		}
	}
}

// Z1: functions without objects at once.
func TestAtOnce(t *testing.T) {
	bags := slices.Concat(offsOf("cy", -1), offsOf("ann", -1, 2), offsOf("bo", -9, -9))
	partners := []api.Named{named("b", 1), named("a", 1), named("c", 1)}
	var w sync.WaitGroup
	for range 8 {
		w.Go(func() {
			for range 50 {
				if s, e := till.Suspects(bags, 2); !slices.Equal(s, []api.Named{named("bo", -18), named("cy", -1)}) || e != api.OK {
					t.Error(s, e)
				}
				if s, e := till.Shares(10, partners); !slices.Equal(s, []int{3, 4, 3}) || e != api.OK {
					t.Error(s, e)
				}
				if n, e := till.Commission(example(), 15_000); n != 2_000 || e != api.OK {
					t.Error(n, e)
				}
				if x, n, e := till.Read("entry 3 x\n  a 5\n  b -5\ncancel 1\n"); x == nil || n != 0 || e != api.OK {
					t.Error(n, e)
				}
			}
		})
	}
	w.Wait()
}

// Z2: arguments are not modified, and what is behind their length is not looked at.
func TestArguments(t *testing.T) {
	bags := append(offsOf("bo", -1, 0, 3, -4), bag(-1, "", -1, -1))
	tiers, charges := append(example(), tier(-1, -1)), []api.Charge{charge(9, 8), charge(7, 6), charge(-1, -1)}
	partners, faults := []api.Named{named("c", 1), named("b", 3), named("a", 1), named("", -1)}, []api.Window{window(9, 10), window(1, 2), window(-1, -2)}
	lines := []api.Line{line("b", 5), line("a", -5), line("", 0)}
	x := till.NewLedger()
	for name, e := range map[string]api.Errno{
		"Off":        last(till.Off(bags[:4])),
		"Suspects":   last(till.Suspects(bags[:4], 1)),
		"Commission": last(till.Commission(tiers[:2], 15_000)),
		"Taxes":      last(till.Taxes(charges[:2])),
		"Shares":     last(till.Shares(9, partners[:3])),
		"Refund":     last(till.Refund(claim(5, 5, 0), faults[:2], 5, 5)),
		"Post":       last(x.Post(entry(3, "x", lines[:2]...))),
		"Cancel":     last(x.Cancel(1)),
	} {
		if e != api.OK {
			t.Errorf("%s: %d", name, e)
		}
	}
	if _, _, e := till.Drift(bags[:4], "bo"); e != api.OK {
		t.Error(e)
	}
	if !slices.Equal(bags, append(offsOf("bo", -1, 0, 3, -4), bag(-1, "", -1, -1))) {
		t.Error(bags)
	}
	if !slices.Equal(tiers, append(example(), tier(-1, -1))) || !slices.Equal(charges, []api.Charge{charge(9, 8), charge(7, 6), charge(-1, -1)}) {
		t.Error(tiers, charges)
	}
	if !slices.Equal(partners, []api.Named{named("c", 1), named("b", 3), named("a", 1), named("", -1)}) || !slices.Equal(faults, []api.Window{window(9, 10), window(1, 2), window(-1, -2)}) {
		t.Error(partners, faults)
	}
	if !slices.Equal(lines, []api.Line{line("b", 5), line("a", -5), line("", 0)}) {
		t.Error(lines)
	}
}

// Z2: a ledger keeps no list that it was given, and gives out none that it keeps.
func TestLedgerCopies(t *testing.T) {
	lines := []api.Line{line("a", 5), line("b", -5), line("c", 7)}
	x := ledgerOf(t, entry(3, "x", lines[:2]...))
	text := printed(t, x)
	lines[0], lines[1] = line("z", 1), line("y", -1)
	if s := printed(t, x); s != text {
		t.Errorf("%q", s)
	}
	if _, e := x.Cancel(1); e != api.OK {
		t.Fatal(e)
	}
	if lines[0] != line("z", 1) || lines[2] != line("c", 7) {
		t.Error(lines)
	}
	for range 2 {
		stands(t, x, named("a", 0), named("b", 0))
		runs(t, x, "a", posted(1, 3, "x", 5, 5), posted(2, 3, "cancel 1", -5, 0))
		trial := x.Trial()
		trial[0] = named("z", 9)
		_ = append(trial, trial[0])
		l, _ := x.Lines("a")
		l[0] = posted(9, 9, "z", 9, 9)
		_ = append(l, l[0])
	}
	trial := x.Trial()
	post(t, x, moves(3, "a", "b", 9))
	if !slices.Equal(trial, []api.Named{named("a", 0), named("b", 0)}) {
		t.Error("what was given out changed", trial)
	}
	runs(t, x, "b", posted(1, 3, "x", -5, -5), posted(2, 3, "cancel 1", 5, 0), posted(3, 3, "move", 9, 9))
}

// Z3: with an error a ledger stays as it was.
func TestErrorsChangeNothing(t *testing.T) {
	x := ledgerOf(t, moves(3, "a", "b", 5), moves(4, "b", "c", 2))
	if _, e := x.Cancel(1); e != api.OK {
		t.Fatal(e)
	}
	text, trial := printed(t, x), x.Trial()
	for name, y := range entryErrors() {
		if _, e := x.Post(y.e); e == api.OK {
			t.Error(name)
		}
	}
	for _, day := range []int{0, 3} {
		if no, e := x.Post(moves(day, "new", "b", 5)); no != 0 || e != api.ErrOrder {
			t.Error(no, e)
		}
	}
	for _, no := range []int{-1, 0, 1, 3, 4} {
		if n, e := x.Cancel(no); n != 0 || e == api.OK {
			t.Error(no, n, e)
		}
	}
	x.Balance("never")
	x.Lines("never")
	if s := printed(t, x); s != text || !slices.Equal(x.Trial(), trial) {
		t.Errorf("%q %v", s, x.Trial())
	}
	if no, e := x.Post(moves(4, "a", "b", 1)); no != 4 || e != api.OK {
		t.Error(no, e)
	}
}

// Z7: the same arguments give the same results.
func TestSame(t *testing.T) {
	var bags []api.Bag
	var charges []api.Charge
	x := till.NewLedger()
	for i, k := range keys(40) {
		bags = append(bags, bag(1, k, 9, 9-i))
		charges = append(charges, charge(7*i%40, i))
		post(t, x, moves(i, k, "z", 1+i))
	}
	partners := manyPartners(50, 1)
	slices.Reverse(bags)
	slices.Reverse(partners)
	suspects, _ := till.Suspects(bags[30:], 1)
	taxes, _ := till.Taxes(charges)
	shares, _ := till.Shares(75, partners)
	trial, text := x.Trial(), printed(t, x)
	if len(suspects) != 9 || len(taxes) != 40 || len(shares) != 50 || len(trial) != 41 {
		t.Fatal(suspects, taxes, shares, trial)
	}
	for range 50 {
		if s, e := till.Suspects(bags[30:], 1); !slices.Equal(s, suspects) || e != api.OK {
			t.Fatal(s, e)
		}
		if l, e := till.Taxes(charges); !slices.Equal(l, taxes) || e != api.OK {
			t.Fatal(l, e)
		}
		if s, e := till.Shares(75, partners); !slices.Equal(s, shares) || e != api.OK {
			t.Fatal(s, e)
		}
		if l := read(t, text).Trial(); !slices.Equal(l, trial) {
			t.Fatal(l)
		}
	}
}

// P7.2 and P7.5: whole values at the bounds.
func TestWholeValues(t *testing.T) {
	if s, e := till.Shares(api.MaxCents, manyPartners(50, 1_000_000)); len(s) != 50 || s[49] != api.MaxCents/50 || e != api.OK {
		t.Error(s, e)
	}
	x := till.NewLedger()
	for range api.MaxEntries / 2 {
		no, e := x.Post(moves(api.MaxDay, "a", "b", api.MaxCents))
		if e != api.OK {
			t.Fatal(e)
		}
		if _, e := x.Cancel(no); e != api.OK {
			t.Fatal(e)
		}
	}
	y := read(t, printed(t, x))
	stands(t, y, named("a", 0), named("b", 0))
	for _, z := range []*till.Ledger{x, y} {
		if no, e := z.Post(moves(api.MaxDay, "a", "b", 1)); no != 0 || e != api.ErrFull {
			t.Error(no, e)
		}
	}
}
