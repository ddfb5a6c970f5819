package round_test

import (
	"math"
	"reflect"
	"slices"
	"strings"
	"sync"
	"testing"

	"coilrack/api"
	"coilrack/round"
)

// Z1 and Z6: no int makes a function panic or overflow.
func TestAllInts(t *testing.T) {
	ints := []int{
		math.MinInt, math.MinInt + 1, -10_001, -10_000, -1, 0, 1, 2, 7, 8, 60, 100, 101, api.DayLong, api.DayLong + 1, api.MaxDay, api.MaxDay + 1, api.MaxDay + 2,
		10_000, 10_001, 1_000_000, 1_000_001, math.MaxInt - 1, math.MaxInt,
	}
	for _, a := range ints {
		for _, b := range ints {
			if e := round.CheckSites([]api.Site{site("a", a, b)}); (e == api.OK) != (a >= 0 && a <= 10_000 && b >= 0 && b <= 1_000_000) {
				t.Errorf("%d %d: CheckSites %d", a, b, e)
			}
			near := max(a, b) <= 10_000 && min(a, b) >= -10_000
			if n, e := round.Far(spot(a, b), spot(b, a)); (e == api.OK) != near || n < 0 {
				t.Errorf("%d %d: Far %d %d", a, b, n, e)
			}
			if e := round.CheckStops([]api.Stop{open("a", a, b)}); (e == api.OK) != near {
				t.Errorf("%d %d: CheckStops %d", a, b, e)
			}
			if e := round.CheckStops([]api.Stop{long(stop("a", 0, 0, a, b), a)}); (e == api.OK) != (0 <= a && a <= b && b <= api.DayLong) {
				t.Errorf("%d %d: CheckStops, a window %d", a, b, e)
			}
			if e := round.CheckPlan(week(a, b)); (e == api.OK) != (1 <= a && a <= 7 && 0 <= b && b <= 10_000) {
				t.Errorf("%d %d: CheckPlan %d", a, b, e)
			}
			if _, e := round.Visits([]int{0, 5}, a, b); (e == api.OK) != (0 <= a && a <= b && b <= api.MaxDay+1) {
				t.Errorf("%d %d: Visits %d", a, b, e)
			}
			round.Visits([]int{a, b}, 0, 9)
			round.Due([]api.Site{site("a", 10_000, 1)}, a)
			for _, l := range [][]api.Stop{{open("a", a, b), open("b", b, a)}, example(), {stop("a", 0, 0, a, b), long(open("b", 0, 0), b)}} {
				zeroResults(t, spot(0, 0), l, a, []int{b}, b)
				zeroResults(t, spot(a, b), l, 0, []int{a, b}, 1)
				zeroResults(t, spot(0, 0), l, 0, []int{1}, a)
				round.Print(l, api.Tour{Begins: []int{a, b}, End: a, Way: b, Waits: a})
			}
			for _, p := range []api.Week{week(a, b, 1), week(2, a, b), week(2, 5, 4)} {
				round.Level(p)
				round.Fair(p)
				round.Loads(p, []int{a, b})
				round.Move(p, []int{a, b}, 1)
				round.Move(p, []int{0, 0}, a)
			}
		}
	}
}

// Z1: no string makes a function panic, and only keys are names.
func TestAllStrings(t *testing.T) {
	for _, s := range []string{"", "\x00", "\xff\xfe", "ä", "-", "9", "A", " a", "a ", "a\n", ".", strings.Repeat("k", 200_000)} {
		if n, e := round.Left([]api.Site{site(s, 1, 1)}); len(n) != 0 || e != api.ErrName {
			t.Errorf("%.9q: Left %v %d", s, n, e)
		}
		if d, e := round.Drive(spot(0, 0), []api.Stop{open(s, 0, 0)}, 0, nil); !sameTour(d, api.Tour{}) || e != api.ErrName {
			t.Errorf("%.9q: Drive %v %d", s, d, e)
		}
		if p, e := round.Print([]api.Stop{open(s, 0, 0)}, api.Tour{Begins: []int{0}}); p != "" || e != api.ErrName {
			t.Errorf("%.9q: Print %q %d", s, p, e)
		}
	}
}

// Z1: lists as long as they can be do not take long.
func TestLongLists(t *testing.T) {
	n := 200_000
	for name, e := range map[string]api.Errno{
		"sites": round.CheckSites(make([]api.Site, n)),
		"slots": round.CheckSites([]api.Site{lists("a", make([]int, n), make([]int, n))}),
		"stops": round.CheckStops(make([]api.Stop, n)),
		"jobs":  round.CheckPlan(week(7, make([]int, n)...)),
	} {
		if e != api.ErrLarge {
			t.Errorf("%s: %d", name, e)
		}
	}
	order := make([]int, n)
	for i := range order {
		order[i] = i
	}
	for f, e := range zeroResults(t, spot(0, 0), manyStops(api.MaxStops), 0, order, 10) {
		want := map[string]api.Errno{"Drive": api.ErrArg, "Insert": api.ErrArg, "Improve": api.ErrArg, "Best": api.ErrLarge}[f]
		if e != want {
			t.Errorf("%s: %d", f, e)
		}
	}
}

// Z1: functions without objects at once.
func TestAtOnce(t *testing.T) {
	l, p := square(), week(2, 5, 4, 3, 3)
	var w sync.WaitGroup
	for range 8 {
		w.Go(func() {
			for range 50 {
				if o, n, e := round.Best(spot(0, 0), l, 0); !slices.Equal(o, []int{0, 2, 1, 4, 3}) || n != 50 || e != api.OK {
					t.Error(o, n, e)
				}
				if s, e := round.Split(spot(0, 0), l, 0, 2); !sameRoutes(s, [][]int{{3, 4, 1, 2, 0}, nil}) || e != api.OK {
					t.Error(s, e)
				}
				if o, n, e := round.Improve(spot(0, 0), l, 0, []int{0, 1, 2}, 9); !slices.Equal(o, []int{0, 2, 1}) || n != 40 || e != api.OK {
					t.Error(o, n, e)
				}
				if d, n, e := round.Level(p); !slices.Equal(d, []int{0, 1, 0, 1}) || n != 8 || e != api.OK {
					t.Error(d, n, e)
				}
				if d, n, e := round.Move(p, []int{0, 0, 0, 0}, 2); len(d) != 4 || n != 8 || e != api.OK {
					t.Error(d, n, e)
				}
			}
		})
	}
	w.Wait()
}

// Z2: arguments are not modified, and what is behind their length is not looked at.
func TestArguments(t *testing.T) {
	sites := func() []api.Site {
		l := []api.Site{site("a", 10, 100, 3, 40, -1, -1), site("b", 0, 100, -1, -1), site("?")}
		for i, n := range []int{2, 1, 0} {
			l[i].Have, l[i].Rate = l[i].Have[:n], l[i].Rate[:n]
		}
		return l
	}
	stops := func() []api.Stop { return append(square(), stop("?", math.MinInt, 0, -1, -2)) }
	allSites, allStops := sites(), stops()
	numbers, begins, jobs, days, pattern := []int{0, 1, 2, -1}, []int{0, 1, 2, 3, 4, -1}, []int{5, 4, 3, 3, -1}, []int{1, 1, 0, 1, -1}, []int{1, 4, -1}
	l, s, order := allSites[:2], allStops[:5], numbers[:3]
	p, tour := api.Week{Jobs: jobs[:4], Days: 2}, api.Tour{Begins: begins[:5]}
	for name, e := range map[string]func() api.Errno{
		"Left":    func() api.Errno { _, e := round.Left(l); return e },
		"Due":     func() api.Errno { _, e := round.Due(l, 9); return e },
		"Drive":   func() api.Errno { _, e := round.Drive(spot(0, 0), s, 0, order); return e },
		"Best":    func() api.Errno { _, _, e := round.Best(spot(0, 0), s, 0); return e },
		"Nearest": func() api.Errno { _, e := round.Nearest(spot(0, 0), s, 0); return e },
		"Insert":  func() api.Errno { _, e := round.Insert(spot(0, 0), s, 0, order, 4); return e },
		"Improve": func() api.Errno { _, _, e := round.Improve(spot(0, 0), s, 0, order, 9); return e },
		"Split":   func() api.Errno { _, e := round.Split(spot(0, 0), s, 0, 3); return e },
		"Print":   func() api.Errno { _, e := round.Print(s, tour); return e },
		"Loads":   func() api.Errno { _, e := round.Loads(p, days[:4]); return e },
		"Level":   func() api.Errno { _, _, e := round.Level(p); return e },
		"Fair":    func() api.Errno { _, e := round.Fair(p); return e },
		"Move":    func() api.Errno { _, _, e := round.Move(p, days[:4], 9); return e },
		"Visits":  func() api.Errno { _, e := round.Visits(pattern[:2], 0, 99); return e },
	} {
		if n := e(); n != api.OK {
			t.Errorf("%s: %d", name, n)
		}
	}
	if !reflect.DeepEqual(allSites, sites()) || allSites[0].Have[:3][2] != -1 || !slices.Equal(allStops, stops()) {
		t.Error(allSites, allStops)
	}
	if !slices.Equal(numbers, []int{0, 1, 2, -1}) || !slices.Equal(begins, []int{0, 1, 2, 3, 4, -1}) || !slices.Equal(pattern, []int{1, 4, -1}) {
		t.Error(numbers, begins, pattern)
	}
	if !slices.Equal(jobs, []int{5, 4, 3, 3, -1}) || !slices.Equal(days, []int{1, 1, 0, 1, -1}) {
		t.Error(jobs, days)
	}
}

// Z2: changing a result, or adding to it, changes nothing else.
func TestResultsAreNew(t *testing.T) {
	order, days := []int{1, 2, 0}, []int{0, 1, 1, 0}
	p := week(2, 5, 4, 3, 3)
	for name, f := range map[string]func() []int{
		"Improve, nothing": func() []int { o, _, _ := round.Improve(spot(0, 0), square(), 0, order, 9); return o },
		"Improve, never":   func() []int { o, _, _ := round.Improve(spot(0, 0), square(), 0, order, 0); return o },
		"Insert":           func() []int { o, _ := round.Insert(spot(0, 0), square(), 0, order, 4); return o },
		"Move, nothing":    func() []int { d, _, _ := round.Move(p, days, 9); return d },
		"Move, never":      func() []int { d, _, _ := round.Move(p, days, 0); return d },
		"Level":            func() []int { d, _, _ := round.Level(p); return d },
		"Best":             func() []int { o, _, _ := round.Best(spot(0, 0), square(), 0); return o },
	} {
		first := f()
		want := slices.Clone(first)
		for i := range first {
			first[i] = 99
		}
		_ = append(first, 99)
		if again := f(); !slices.Equal(again, want) || len(again) == 0 {
			t.Error(name, again, want)
		}
		if !slices.Equal(order, []int{1, 2, 0}) || !slices.Equal(days, []int{0, 1, 1, 0}) {
			t.Fatal(name, order, days)
		}
	}
	l := []api.Stop{stop("a", 1, 0, 0, 9), long(stop("b", 1, 0, 0, 9), 9), stop("c", 1, 0, 0, 1), open("d", 1, 0)}
	for i := range 2 {
		s, e := round.Split(spot(0, 0), l, 0, 2)
		if e != api.OK {
			t.Fatal(e)
		}
		other := slices.Clone(s[1-i])
		for j := range s[i] {
			s[i][j] = 99
		}
		_ = append(s[i], 99, 99)
		if !slices.Equal(s[1-i], other) {
			t.Error(s)
		}
	}
}

// Z7: the same arguments give the same results.
func TestSame(t *testing.T) {
	var l []api.Stop
	for i, k := range keys(api.MaxExact) {
		l = append(l, open(k, i%2, i/4)) // many routes are as short
	}
	best, way, e := round.Best(spot(0, 0), l, 0)
	if e != api.OK {
		t.Fatal(e)
	}
	split, e := round.Split(spot(0, 0), manyStops(api.MaxStops), 0, 3)
	if e != api.OK {
		t.Fatal(e)
	}
	for range 20 {
		if o, n, e := round.Best(spot(0, 0), l, 0); !slices.Equal(o, best) || n != way || e != api.OK {
			t.Fatal(o, n, e)
		}
		if s, e := round.Split(spot(0, 0), manyStops(api.MaxStops), 0, 3); !sameRoutes(s, split) || e != api.OK {
			t.Fatal(s, e)
		}
	}
}

// P6.2 and P6.3: one function takes what another one makes, at the bounds too.
func TestWholeValues(t *testing.T) {
	home, l := spot(2, -3), manyStops(api.MaxStops)
	near, e := round.Nearest(home, l, 0)
	if e != api.OK || len(near) != api.MaxStops {
		t.Fatal(near, e)
	}
	before, ok := drives(t, home, l, 0, near)
	better, way, e := round.Improve(home, l, 0, near, 100)
	if !ok || e != api.OK || way > before {
		t.Fatal(better, way, before, e)
	}
	if n, ok := drives(t, home, l, 0, better); !ok || n != way {
		t.Error(n, way)
	}
	further := better[api.MaxStops-1]
	full, e := round.Insert(home, l, 0, better[:api.MaxStops-1], further)
	if n, ok := drives(t, home, l, 0, full); !ok || n > way || e != api.OK {
		t.Error(full, n, way, e)
	}
	routes, e := round.Split(home, l, 0, 10)
	visited := 0
	for _, order := range routes {
		if _, ok := drives(t, home, l, 0, order); !ok {
			t.Error(order)
		}
		visited += len(order)
	}
	if len(routes) != 10 || visited != api.MaxStops || e != api.OK {
		t.Error(routes, e)
	}
	if n := round.CheckStops(append(l, open("z", 0, 0))); n != api.ErrLarge {
		t.Error(n)
	}
	best, way, e := round.Best(home, l[:api.MaxExact], 0)
	if n, ok := drives(t, home, l[:api.MaxExact], 0, best); !ok || n != way || e != api.OK {
		t.Error(best, n, way, e)
	}
	p := week(7, manyJobs(api.MaxJobs)...)
	fair, e := round.Fair(p)
	if e != api.OK {
		t.Fatal(e)
	}
	top := greatest(t, p, fair)
	moved, load, e := round.Move(p, fair, 100)
	if n := greatest(t, p, moved); n != load || e != api.OK {
		t.Error(moved, n, load, top, e)
	}
}
