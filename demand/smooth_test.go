package demand_test

import (
	"math"
	"math/big"
	"math/rand"
	"slices"
	"testing"

	"coilrack/api"
	"coilrack/demand"
)

// P3.1: smooth numbers.
func TestSmooth(t *testing.T) {
	l := []api.Sales{day(0, 2), day(1, 3), out(2, 1), out(5, 4), day(6, 0)}
	for _, x := range []struct {
		l        []api.Sales
		num, den int
		want     []int
	}{
		{example(), 1, 2, []int{2_000, 4_000, 3_500}},
		{l, 1, 2, []int{2_000, 2_500, 2_500, 4_000, 2_000}},
		{l, 0, 1, []int{2_000, 2_000, 2_000, 4_000, 4_000}}, // only days that are Out count
		{l, 1, 1, []int{2_000, 3_000, 3_000, 4_000, 0}},     // the day itself
		{l, 1, 3, []int{2_000, 2_333, 2_333, 4_000, 2_666}}, // 2333.3, and down from 2666.6
		{l, 999, 1_000, []int{2_000, 2_999, 2_999, 4_000, 4}},
		{l, 1_000, 1_000, []int{2_000, 3_000, 3_000, 4_000, 0}},
		{[]api.Sales{day(9, 1), day(10, 0)}, 1, 3, []int{1_000, 666}}, // 1000 - 333.3: rounded down, not towards 1000
		{[]api.Sales{day(9, 0), day(10, 1)}, 2, 3, []int{0, 666}},
		{[]api.Sales{out(9, 7), day(10, 7)}, 1, 3, []int{7_000, 7_000}}, // a first day that is Out
		{[]api.Sales{out(9, 1_000), out(10, 999)}, 1, 3, []int{1_000_000, 1_000_000}},
		{[]api.Sales{day(9, 5)}, 1, 2, []int{5_000}},
	} {
		if n, e := demand.Smooth(x.l, x.num, x.den); !slices.Equal(n, x.want) || e != api.OK {
			t.Errorf("%v %d/%d: %v %d", x.l, x.num, x.den, n, e)
		}
	}
}

// P3.1: what Smooth refuses, and in which order.
func TestSmoothErrors(t *testing.T) {
	for _, x := range []struct {
		l        []api.Sales
		num, den int
		want     api.Errno
	}{
		{example(), 0, 0, api.ErrArg},
		{example(), 0, -1, api.ErrArg},
		{example(), -2, -1, api.ErrArg},
		{example(), 1, 1_001, api.ErrArg},
		{example(), 1, math.MaxInt, api.ErrArg},
		{example(), 1, math.MinInt, api.ErrArg},
		{example(), -1, 2, api.ErrArg},
		{example(), 3, 2, api.ErrArg},
		{example(), math.MinInt, 2, api.ErrArg},
		{example(), math.MaxInt, 2, api.ErrArg},
		{nil, 3, 2, api.ErrArg},
		{nil, 1, 0, api.ErrArg},
		{nil, 1, 2, api.ErrNone},
		{[]api.Sales{}, 0, 1, api.ErrNone},
	} {
		if n, e := demand.Smooth(x.l, x.num, x.den); len(n) != 0 || e != x.want {
			t.Errorf("%v %d/%d: %v %d", x.l, x.num, x.den, n, e)
		}
	}
}

// P3.1: Smooth against exact numbers: the one before plus a part of the difference, rounded down.
func TestSmoothOfSome(t *testing.T) {
	r := rand.New(rand.NewSource(3))
	for range 1_000 {
		l := append([]api.Sales{day(0, r.Intn(1_001))}, someDays(r, 12, 1_000)...)
		for i := range l {
			l[i].Day += i
		}
		den := 1 + r.Intn(1_000)
		num := r.Intn(den + 1)
		want := []int{1_000 * l[0].Sold}
		for _, s := range l[1:] {
			before := want[len(want)-1]
			next := max(before, 1_000*s.Sold)
			if !s.Out {
				part := big.NewInt(int64((1_000*s.Sold - before) * num))
				next = before + int(part.Div(part, big.NewInt(int64(den))).Int64()) // Div rounds down for den above 0
			}
			want = append(want, next)
		}
		if n, e := demand.Smooth(l, num, den); !slices.Equal(n, want) || e != api.OK {
			t.Fatalf("%v %d/%d: %v %d, not %v", l, num, den, n, e, want)
		}
	}
}
