package demand_test

import (
	"math"
	"math/big"
	"math/rand"
	"testing"

	"coilrack/api"
	"coilrack/demand"
)

// P3.3: what is sold of a load.
func TestExpected(t *testing.T) {
	h := []int{0, 0, 1, 1}
	for _, x := range []struct {
		h    []int
		load int
		want api.Fraction
	}{
		{h, 0, fr(0, 1)}, {h, 1, fr(1, 1)}, {h, 2, fr(2, 1)}, {h, 3, fr(5, 2)}, {h, 4, fr(5, 2)}, {h, api.MaxBins, fr(5, 2)},
		{[]int{1, 1, 1, 0}, 1, fr(2, 3)}, {[]int{1, 1, 1, 0}, 2, fr(1, 1)},
		{[]int{9}, 5, fr(0, 1)},
		{only(2_000, api.MaxWeight), api.MaxBins, fr(2_000, 1)},
		{[]int{1, 0, 0, api.MaxWeight - 1}, 3, fr(3*(api.MaxWeight-1), api.MaxWeight)}, // Num may be above 10^9
	} {
		if f, e := demand.Expected(x.h, x.load); f != x.want || e != api.OK {
			t.Errorf("%d bins, %d: %v %d", len(x.h), x.load, f, e)
		}
	}
	for _, load := range []int{-1, api.MaxBins + 1, math.MinInt, math.MaxInt} {
		if f, e := demand.Expected(h, load); f != fr(0, 0) || e != api.ErrArg {
			t.Errorf("%d: %v %d", load, f, e)
		}
	}
}

// P3.3: the profit of a load.
func TestProfit(t *testing.T) {
	h := []int{0, 0, 1, 1}
	for _, x := range []struct {
		h                   []int
		load, margin, waste int
		want                api.Fraction
	}{
		{h, 0, 100, 60, fr(0, 1)}, {h, 1, 100, 60, fr(100, 1)}, {h, 2, 100, 60, fr(200, 1)},
		{h, 3, 100, 60, fr(220, 1)}, // the example
		{h, 4, 100, 60, fr(160, 1)},
		{h, 4, 0, 60, fr(-90, 1)}, // below 0
		{h, 3, 1, 0, fr(5, 2)}, {h, 3, 0, 1, fr(-1, 2)}, {h, 3, 0, 0, fr(0, 1)},
		{[]int{2, 1}, 1, 2, 1, fr(0, 1)}, {[]int{2, 1}, 2, 5, 3, fr(-10, 3)},
		{only(2_000, api.MaxWeight), api.MaxBins, 10_000, 10_000, fr(19_990_000, 1)},
		{[]int{api.MaxWeight}, api.MaxBins, 10_000, 10_000, fr(-20_010_000, 1)},
		{[]int{api.MaxWeight - 1, 1}, api.MaxBins, 0, 9_999, fr(-9_999*(2_001*api.MaxWeight-1), api.MaxWeight)},
	} {
		if f, e := demand.Profit(x.h, x.load, x.margin, x.waste); f != x.want || e != api.OK {
			t.Errorf("%d bins, %d %d %d: %v %d", len(x.h), x.load, x.margin, x.waste, f, e)
		}
	}
}

// P3.3: the load with the greatest profit.
func TestOrder(t *testing.T) {
	h := []int{0, 0, 1, 1}
	for _, x := range []struct {
		h                   []int
		most, margin, waste int
		want                int
	}{
		{h, 9, 100, 60, 3}, {h, 3, 100, 60, 3}, {h, 2, 100, 60, 2}, {h, 0, 100, 60, 0},
		{h, 9, 60, 60, 2},  // 3 is as good as 2
		{h, 9, 61, 60, 3},  // 3 is better
		{h, 9, 100, 0, 3},  // nothing is lost behind the greatest number
		{h, 9, 0, 100, 0},  // nothing is won
		{h, 9, 0, 0, 0},    // all are as good
		{h, 9, 1, 9999, 2}, // 2 are always sold
		{[]int{5, 0, 0}, 9, 100, 1, 0},
		{only(2_000, api.MaxWeight), api.MaxBins, 10_000, 10_000, 2_000},
		{only(2_000, api.MaxWeight), 1_999, 10_000, 10_000, 1_999},
		{[]int{api.MaxWeight - 1, 1}, 9, 10_000, 1, 0},
		{[]int{9_999, 1}, 9, 10_000, 1, 1},  // 10,001 is greater than 10,000
		{[]int{10_000, 1}, 9, 10_000, 1, 0}, // 10,001 is not greater than 10,001
	} {
		if n, e := demand.Order(x.h, x.most, x.margin, x.waste); n != x.want || e != api.OK {
			t.Errorf("%d bins, %d %d %d: %d %d", len(x.h), x.most, x.margin, x.waste, n, e)
		}
	}
}

// P3.3: what Profit and Order refuse.
func TestLoadErrors(t *testing.T) {
	h := []int{0, 0, 1, 1}
	for _, x := range [][3]int{
		{-1, 1, 1}, {api.MaxBins + 1, 1, 1}, {math.MinInt, 1, 1}, {math.MaxInt, 1, 1},
		{1, -1, 1}, {1, 10_001, 1}, {1, math.MinInt, 1}, {1, math.MaxInt, 1},
		{1, 1, -1}, {1, 1, 10_001}, {1, 1, math.MinInt}, {1, 1, math.MaxInt},
	} {
		if f, e := demand.Profit(h, x[0], x[1], x[2]); f != fr(0, 0) || e != api.ErrArg {
			t.Errorf("%v: Profit %v %d", x, f, e)
		}
		if n, e := demand.Order(h, x[0], x[1], x[2]); n != 0 || e != api.ErrArg {
			t.Errorf("%v: Order %d %d", x, n, e)
		}
	}
}

// P3.3: Expected and Profit against exact numbers; Profit does not rise any more after it has fallen; Order against all loads.
func TestLoadsOfSome(t *testing.T) {
	r := rand.New(rand.NewSource(7))
	for range 2_000 {
		h := someHistogram(r, 7, 3)
		margin, waste, most := r.Intn(4), r.Intn(4), r.Intn(10)
		best, order := (*big.Rat)(nil), 0
		last, fell := new(big.Rat), false
		for load := range most + 1 {
			var sold []int
			for _, n := range numbers(h) {
				sold = append(sold, min(n, load))
			}
			mean := meanOf(sold)
			if f, e := demand.Expected(h, load); f != fraction(mean) || e != api.OK {
				t.Fatal(h, load, f, e)
			}
			gain := new(big.Rat).Mul(ratio(margin, 1), mean)
			left := new(big.Rat).Sub(ratio(load, 1), mean)
			profit := gain.Sub(gain, left.Mul(left, ratio(waste, 1)))
			if f, e := demand.Profit(h, load, margin, waste); f != fraction(profit) || e != api.OK {
				t.Fatal(h, load, margin, waste, f, e)
			}
			if fell && profit.Cmp(last) > 0 {
				t.Fatal(h, load, margin, waste)
			}
			fell = fell || profit.Cmp(last) < 0
			last = profit
			if best == nil || profit.Cmp(best) > 0 {
				best, order = profit, load
			}
		}
		if n, e := demand.Order(h, most, margin, waste); n != order || e != api.OK {
			t.Fatal(h, most, margin, waste, n, e, order)
		}
	}
}
