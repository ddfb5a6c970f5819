package demand_test

import (
	"math"
	"math/big"
	"math/rand"
	"testing"

	"coilrack/api"
	"coilrack/demand"
)

const billion = 1_000_000_000

// P3.4: sums of fractions.
func TestAdd(t *testing.T) {
	for _, x := range []struct{ a, b, want api.Fraction }{
		{fr(1, 2), fr(1, 3), fr(5, 6)},
		{fr(1, 6), fr(1, 3), fr(1, 2)},
		{fr(1, 2), fr(1, 2), fr(1, 1)},
		{fr(1, 2), fr(-1, 2), fr(0, 1)},
		{fr(1, 4), fr(-3, 4), fr(-1, 2)},
		{fr(-1, 3), fr(-1, 6), fr(-1, 2)},
		{fr(0, 1), fr(0, 1), fr(0, 1)},
		{fr(0, 1), fr(-7, 9), fr(-7, 9)},
		{fr(billion, 1), fr(-billion, 1), fr(0, 1)},
		{fr(billion-1, 1), fr(1, 1), fr(billion, 1)},
		{fr(1-billion, 1), fr(-1, 1), fr(-billion, 1)},
		{fr(billion, billion-1), fr(-1, billion-1), fr(1, 1)},
		{fr(1, billion), fr(0, 1), fr(1, billion)},
		{fr(1, billion), fr(1, billion), fr(1, 500_000_000)},
		{fr(1, 40_000), fr(1, 50_000), fr(9, 200_000)}, // the product of both Dens is above the bound, the sum is within it
		{fr(1, 500_000_000), fr(1, billion), fr(3, billion)},
		{fr(-1, billion), fr(1, billion), fr(0, 1)},
		{fr(999_999_999, billion), fr(1, billion), fr(1, 1)},
	} {
		if f, e := demand.Add(x.a, x.b); f != x.want || e != api.OK {
			t.Errorf("%v %v: %v %d", x.a, x.b, f, e)
		}
		if f, e := demand.Add(x.b, x.a); f != x.want || e != api.OK {
			t.Errorf("%v %v: %v %d", x.b, x.a, f, e)
		}
	}
}

// P3.4: what Add refuses.
func TestAddErrors(t *testing.T) {
	good := fr(billion, 1) // too great with itself
	for _, bad := range []api.Fraction{
		{}, fr(1, 0), fr(1, -1), fr(0, -1), fr(1, math.MinInt), fr(1, billion+1), fr(1, math.MaxInt),
		fr(billion+1, 1), fr(-billion-1, 1), fr(math.MinInt, 1), fr(math.MaxInt, 1), fr(math.MinInt, math.MinInt),
		fr(0, 2), fr(2, 2), fr(2, 4), fr(-6, 9), fr(billion, billion), fr(-billion, 2),
	} {
		for _, x := range [][2]api.Fraction{{bad, good}, {good, bad}, {bad, bad}} {
			if f, e := demand.Add(x[0], x[1]); f != fr(0, 0) || e != api.ErrForm {
				t.Errorf("%v %v: %v %d", x[0], x[1], f, e)
			}
		}
	}
	for _, x := range [][2]api.Fraction{
		{good, good}, {good, fr(1, 1)}, {fr(-billion, 1), fr(-1, 1)}, {fr(1, billion), fr(1, 3)}, {fr(1, billion), fr(-1, 999_999_999)},
		{fr(1, 31_627), fr(1, 31_643)}, {fr(billion, 3), fr(billion-1, 2)}, {good, fr(1, 2)},
	} {
		if f, e := demand.Add(x[0], x[1]); f != fr(0, 0) || e != api.ErrLarge {
			t.Errorf("%v %v: %v %d", x[0], x[1], f, e)
		}
	}
}

// P3.4: Add against exact numbers, around the bounds too.
func TestAddOfSome(t *testing.T) {
	r := rand.New(rand.NewSource(4))
	large := 0
	for range 5_000 {
		most := []int{9, 40_000, billion}[r.Intn(3)]
		some := func() *big.Rat { return ratio(r.Intn(2*most+1)-most, 1+r.Intn(most)) }
		a, b := some(), some()
		want, wrong := fraction(new(big.Rat).Add(a, b)), api.OK
		if want.Den > billion || want.Num > billion || want.Num < -billion {
			want, wrong = fr(0, 0), api.ErrLarge
			large++
		}
		if f, e := demand.Add(fraction(a), fraction(b)); f != want || e != wrong {
			t.Fatalf("%v %v: %v %d, not %v %d", a, b, f, e, want, wrong)
		}
	}
	if large == 0 || large == 5_000 {
		t.Error("both results must be tried", large)
	}
}
