package demand_test

import (
	"math"
	"reflect"
	"slices"
	"sync"
	"testing"

	"coilrack/api"
	"coilrack/demand"
)

// Z1 and Z6: no int makes a function panic or overflow.
func TestAllInts(t *testing.T) {
	ints := []int{
		math.MinInt, math.MinInt + 1, -billion, -1, 0, 1, 2, 7, 100, 1_000, api.MaxBins, api.MaxDay, 10_000, billion, math.MaxInt - 1, math.MaxInt,
	}
	for _, a := range ints {
		for _, b := range ints {
			l := []api.Sales{day(a, b)}
			if e := demand.CheckDays(l); (e == api.OK) != (a >= 0 && a <= api.MaxDay && b >= 0 && b <= api.MaxSold) {
				t.Errorf("%v: %d", l, e)
			}
			demand.Smooth(example(), a, b)
			demand.Lift(example(), api.Window{From: a, To: b})
			demand.Error(example(), []int{a, b, a})
			demand.CheckTable(table([]int{0, a, b}, []int{b, 0, a}, []int{a, b, 0}))
			demand.Instead(table([]int{0, 100}, []int{100, 0}), []int{a, b}, []int{b, a})
			for _, h := range [][]int{{a, b}, {a, b, math.MaxInt, a, b}, {0, 0, 1, 1}, {api.MaxWeight}, only(2_000, api.MaxWeight)} {
				demand.CheckHistogram(h)
				demand.Together(h, a)
				demand.Chance(h, a)
				demand.Quantile(h, a)
				demand.Expected(h, a)
				demand.Profit(h, a, b, b)
				demand.Order(h, a, b, b)
			}
			for _, c := range ints {
				f, e := demand.Add(fr(a, b), fr(c, 1))
				if bad := b < 1 || b > billion || a < -billion || a > billion || c < -billion || c > billion; bad && e != api.ErrForm {
					t.Errorf("%d/%d + %d: %v %d", a, b, c, f, e)
				}
			}
		}
	}
}

// Z1: functions without objects at once.
func TestAtOnce(t *testing.T) {
	l, h, two := example(), []int{0, 0, 1, 1}, table([]int{0, 50}, []int{20, 0})
	var w sync.WaitGroup
	for range 8 {
		w.Go(func() {
			for range 50 {
				if n, e := demand.Uncover(l); !slices.Equal(n, []int{2, 4, 3}) || e != api.OK {
					t.Error(n, e)
				}
				if g, e := demand.Together(h, 2); !slices.Equal(g, []int{0, 0, 0, 0, 1, 2, 1}) || e != api.OK {
					t.Error(g, e)
				}
				if s, lost, e := demand.Instead(two, []int{10, 1}, []int{4, 3}); !slices.Equal(s, []int{4, 3}) || !slices.Equal(lost, []int{4, 0}) || e != api.OK {
					t.Error(s, lost, e)
				}
			}
		})
	}
	w.Wait()
}

// Z2: arguments are not modified, and what is behind their length is not looked at.
func TestArguments(t *testing.T) {
	days := append(example(), day(-1, -1))
	l := days[:3]
	guess := []int{1, 9, 3, -1}
	demand.Rate(l)
	demand.Least(l)
	demand.Uncover(l)
	demand.Week(l)
	demand.Smooth(l, 1, 2)
	demand.Lift(l, api.Window{From: 2, To: 3})
	demand.Error(l, guess[:3])
	demand.Histogram(l)
	if !slices.Equal(days, append(example(), day(-1, -1))) || !slices.Equal(guess, []int{1, 9, 3, -1}) {
		t.Error(days, guess)
	}
	h := []int{0, 2, 1, 0, -1}
	for _, part := range [][]int{h[:4], h[:3], h[:2]} {
		demand.Together(part, 1)
		demand.Together(part, 3)
		demand.Chance(part, 1)
		demand.Quantile(part, 50)
		demand.Expected(part, 2)
		demand.Profit(part, 2, 10, 5)
		demand.Order(part, 9, 10, 0)
	}
	if !slices.Equal(h, []int{0, 2, 1, 0, -1}) {
		t.Error(h)
	}
	x := table([]int{0, 50, -1}[:2], []int{20, 0, -1}[:2], []int{-1})
	x.Share = x.Share[:2]
	wants, stock := []int{10, 1, -1}, []int{4, 3, -1}
	if s, lost, e := demand.Instead(x, wants[:2], stock[:2]); !slices.Equal(s, []int{4, 3}) || !slices.Equal(lost, []int{4, 0}) || e != api.OK {
		t.Error(s, lost, e)
	}
	if !slices.Equal(wants, []int{10, 1, -1}) || !slices.Equal(stock, []int{4, 3, -1}) {
		t.Error(wants, stock)
	}
	if !reflect.DeepEqual(x.Share[:3], [][]int{{0, 50}, {20, 0}, {-1}}) || x.Share[0][:3][2] != -1 || x.Share[1][:3][2] != -1 {
		t.Error(x.Share[:3])
	}
}

// Z2: changing a result, or adding to it, changes nothing else.
func TestResultsAreNew(t *testing.T) {
	h := []int{0, 2, 1, 0}
	g, _ := demand.Together(h, 1)
	g[1] = 9
	_ = append(g, 9)
	if !slices.Equal(h, []int{0, 2, 1, 0}) {
		t.Error(h)
	}
	x := table([]int{0, 50}, []int{20, 0})
	wants, stock := []int{5, 5}, []int{5, 5}
	s, l, _ := demand.Instead(x, wants, stock)
	s[0], s[1] = 9, 9
	_ = append(s, 9)
	if !slices.Equal(l, []int{0, 0}) || !slices.Equal(wants, []int{5, 5}) || !slices.Equal(stock, []int{5, 5}) {
		t.Error(l, wants, stock)
	}
	w, _ := demand.Week(nil)
	w[0] = fr(9, 1)
	if v, _ := demand.Week(nil); !slices.Equal(w[1:], v[1:]) || v[0] != fr(1, 1) {
		t.Error(w, v)
	}
}

// P3.1 to P3.3: one function takes what another one makes, at the bounds too.
func TestWholeValues(t *testing.T) {
	l := fullDays()
	rate, _ := demand.Rate(l)
	least, _ := demand.Least(l)
	if f, e := demand.Add(rate, least); f != fr(2_000, 1) || e != api.OK {
		t.Error(f, e)
	}
	h, _ := demand.Histogram(l[:30])
	two, e := demand.Together(h, 2)
	if !slices.Equal(two, only(2_000, 900)) || e != api.OK {
		t.Fatal(len(two), e)
	}
	if n, e := demand.Quantile(two, 100); n != 2_000 || e != api.OK {
		t.Error(n, e)
	}
	if again, e := demand.Together(two, 1); !slices.Equal(again, two) || e != api.OK {
		t.Error(len(again), e)
	}
	if again, e := demand.Together(two, 2); len(again) != 0 || e != api.ErrLarge {
		t.Error(len(again), e)
	}
}
