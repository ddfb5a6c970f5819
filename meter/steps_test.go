package meter_test

import (
	"math"
	"math/rand"
	"slices"
	"testing"

	"coilrack/api"
	"coilrack/meter"
)

// P2.2: one step, around the limit and the turn.
func TestStep(t *testing.T) {
	m := func(turn, fast int) api.Meter { return api.Meter{Counters: 1, Turn: turn, Fast: fast} }
	for _, x := range []struct {
		m        api.Meter
		from, to int
		a, b     int
		reset    bool
		sold     int
	}{
		{m(100, 50), 60, 1_500, 90, 5, false, 15},   // the example: a limit of 99
		{m(100, 5), 60, 1_500, 90, 5, true, 5},      // the example: a limit of 10
		{m(100, 5), 0, 1_439, 7, 12, false, 5},      // one day
		{m(100, 5), 0, 1_439, 7, 13, true, 13},      // one more than its limit
		{m(100, 5), 1_439, 1_440, 7, 17, false, 10}, // two days, a minute apart
		{m(100, 5), 1_439, 1_440, 7, 18, true, 18},
		{m(100, 5), 1_440, 2_879, 7, 13, true, 13}, // one day, not the first one
		{m(100, 5), 0, 2_880, 97, 12, false, 15},   // three days, over the turn
		{m(100, 5), 0, 2_880, 97, 13, true, 13},
		{m(100, 5), 0, 5, 40, 40, false, 0},
		{m(100, 5), 0, 5, 0, 99, true, 99},
		{m(100, 5), 0, 5, 99, 0, false, 1},
		{m(100, 99), 0, 5, 1, 0, false, 99}, // the limit is Turn - 1: never a reset
		{m(100, 98), 0, 5, 1, 0, true, 0},
		{m(10, 9), 0, 1, 9, 8, false, 9},
		{m(1_000_000, 999_999), 0, api.End - 1, 1, 0, false, 999_999},
		{m(1_000_000, 1), 0, api.End - 1, 0, 4_001, false, 4_001},
		{m(1_000_000, 1), 0, api.End - 1, 0, 4_002, true, 4_002},
	} {
		l := []api.Reading{reading(x.from, x.a), reading(x.to, x.b)}
		want := []api.Step{{From: x.from, To: x.to, Reset: x.reset, Sold: []int{x.sold}}}
		if s, e := meter.Steps(x.m, l); !same(s, want) || e != api.OK {
			t.Errorf("%v %v: %v %d", x.m, l, s, e)
		}
	}
}

// P2.2: one counter that is too fast means that all were reset.
func TestSeveralCounters(t *testing.T) {
	m := api.Meter{Counters: 3, Turn: 100, Fast: 10}
	l := []api.Reading{
		reading(300, 3, 98, 9), reading(0, 1, 95, 5), reading(200, 2, 4, 7), reading(100, 1, 95, 5), reading(100, 1, 95, 5),
	}
	steps := []api.Step{
		{From: 0, To: 100, Sold: []int{0, 0, 0}},
		{From: 100, To: 200, Sold: []int{1, 9, 2}},
		{From: 200, To: 300, Reset: true, Sold: []int{3, 98, 9}},
	}
	if s, e := meter.Steps(m, l); !same(s, steps) || e != api.OK {
		t.Error(s, e)
	}
	if s, e := meter.Sold(m, l); !slices.Equal(s, []int{4, 107, 11}) || e != api.OK {
		t.Error(s, e)
	}
	if r, e := meter.Resets(m, l); !slices.Equal(r, []int{300}) || e != api.OK {
		t.Error(r, e)
	}
}

// P2.2: fewer than two moments.
func TestNoSteps(t *testing.T) {
	for _, l := range [][]api.Reading{nil, {}, {reading(5, 7, 8)}, {reading(5, 7, 8), reading(5, 7, 8)}} {
		if s, e := meter.Steps(two(), l); len(s) != 0 || e != api.OK {
			t.Errorf("%v: %v %d", l, s, e)
		}
		if s, e := meter.Sold(two(), l); !slices.Equal(s, []int{0, 0}) || e != api.OK {
			t.Errorf("%v: %v %d", l, s, e)
		}
		if r, e := meter.Resets(two(), l); len(r) != 0 || e != api.OK {
			t.Errorf("%v: %v %d", l, r, e)
		}
		if d, e := meter.Days(two(), l, 1); len(d) != 0 || e != api.OK {
			t.Errorf("%v: %v %d", l, d, e)
		}
	}
}

// P2.2: the order of readings, and readings that come twice, change nothing; Sold is congruent to last minus first without a reset.
func TestStepsOfSome(t *testing.T) {
	r := rand.New(rand.NewSource(2))
	resets := 0
	for range 500 {
		m := api.Meter{Counters: 1 + r.Intn(3), Turn: 10 + r.Intn(100)}
		m.Fast = 1 + r.Intn(m.Turn-1)
		l := someReadings(r, m, 12)
		steps, e := meter.Steps(m, l)
		if e != api.OK || len(steps) != max(0, len(l)-1) {
			t.Fatal(l, steps, e)
		}
		mixed := shuffled(r, slices.Concat(l, l[:len(l)/2]))
		if s, e := meter.Steps(m, mixed); !same(s, steps) || e != api.OK {
			t.Fatal(mixed, s, e)
		}
		sums := make([]int, m.Counters)
		var behind []int
		for i, s := range steps {
			if s.From != l[i].At || s.To != l[i+1].At {
				t.Fatal(l, steps)
			}
			for c, n := range s.Sold {
				sums[c] += n
			}
			if s.Reset {
				behind = append(behind, s.To)
			}
		}
		resets += len(behind)
		sold, _ := meter.Sold(m, mixed)
		if got, _ := meter.Resets(m, mixed); !slices.Equal(sold, sums) || !slices.Equal(got, behind) {
			t.Fatal(l, sold, got)
		}
		if len(behind) > 0 || len(l) == 0 {
			continue
		}
		for c, n := range sold {
			if (n-l[len(l)-1].Values[c]+l[0].Values[c])%m.Turn != 0 {
				t.Fatal(l, sold)
			}
		}
	}
	if resets == 0 {
		t.Error("no reset was tried")
	}
}

// P2.2: as many steps, and as fast ones, as there can be.
func TestMostSold(t *testing.T) {
	m := api.Meter{Counters: 60, Turn: 1_000_000, Fast: 999_999}
	var l []api.Reading
	for i := range api.MaxReadings {
		values := make([]int, 60)
		for c := range values {
			values[c] = 999_999 - i
		}
		l = append(l, reading(i*2_000, values...))
	}
	s, e := meter.Sold(m, l)
	if e != api.OK || len(s) != 60 || slices.Min(s) != 1_999*999_999 || slices.Max(s) != 1_999*999_999 {
		t.Error(s, e)
	}
}

// P2.3: counters that were counted otherwise.
func TestAgree(t *testing.T) {
	m := api.Meter{Counters: 3, Turn: 1_000, Fast: 999}
	l := []api.Reading{reading(0, 0, 0, 0), reading(100, 10, 20, 30)}
	for _, x := range []struct {
		sold   []int
		within int
		want   []api.Apart
	}{
		{[]int{10, 20, 30}, 0, nil},
		{[]int{9, 20, 31}, 0, []api.Apart{{Counter: 0, Meter: 10, Other: 9}, {Counter: 2, Meter: 30, Other: 31}}},
		{[]int{9, 20, 31}, 1, nil},
		{[]int{8, 22, 31}, 1, []api.Apart{{Counter: 0, Meter: 10, Other: 8}, {Counter: 1, Meter: 20, Other: 22}}},
		{[]int{0, 0, 1_000_000_000}, 20, []api.Apart{{Counter: 2, Meter: 30, Other: 1_000_000_000}}},
		{[]int{0, 0, 1_000_000_000}, 1_000_000_000, nil},
	} {
		if a, e := meter.Agree(m, l, x.sold, x.within); !same(a, x.want) || e != api.OK {
			t.Errorf("%v %d: %v %d", x.sold, x.within, a, e)
		}
	}
	if a, e := meter.Agree(m, nil, []int{0, 5, 0}, 4); !same(a, []api.Apart{{Counter: 1, Other: 5}}) || e != api.OK {
		t.Error(a, e)
	}
}

// P2.3: what Agree refuses, and in which order.
func TestAgreeErrors(t *testing.T) {
	for _, x := range []struct {
		sold   []int
		within int
		want   api.Errno
	}{
		{nil, -1, api.ErrForm},
		{[]int{-1}, -1, api.ErrForm},
		{[]int{0, 0, 0}, 0, api.ErrForm},
		{[]int{0, -1}, 0, api.ErrArg},
		{[]int{1_000_000_001, 0}, 0, api.ErrArg},
		{[]int{math.MinInt, 0}, 0, api.ErrArg},
		{[]int{0, math.MaxInt}, 0, api.ErrArg},
		{[]int{5, 5}, -1, api.ErrArg},
		{[]int{5, 5}, 1_000_000_001, api.ErrArg},
		{[]int{5, 5}, math.MinInt, api.ErrArg},
		{[]int{5, 5}, math.MaxInt, api.ErrArg},
	} {
		if a, e := meter.Agree(two(), nil, x.sold, x.within); len(a) != 0 || e != x.want {
			t.Errorf("%v %d: %v %d", x.sold, x.within, a, e)
		}
	}
}
