package meter_test

import (
	"math"
	"math/rand"
	"slices"
	"testing"

	"coilrack/api"
	"coilrack/meter"
)

// equalTo makes n equal numbers.
func equalTo(n, number int) []int { return slices.Repeat([]int{number}, n) }

// P2.3: Share where the document names the result.
func TestShare(t *testing.T) {
	for _, x := range []struct {
		total   int
		weights []int
		want    []int
	}{
		{10, []int{1, 1, 1}, []int{4, 3, 3}},
		{11, []int{1, 1, 1}, []int{4, 4, 3}},
		{12, []int{1, 1, 1}, []int{4, 4, 4}},
		{0, []int{1, 2}, []int{0, 0}},
		{7, []int{5}, []int{7}},
		{1, []int{1, 2}, []int{0, 1}},              // remainders of 1 and 2 thirds
		{1, []int{0, 1, 0, 1}, []int{0, 1, 0, 0}},  // nothing for a weight of 0
		{10, []int{3, 5, 4}, []int{3, 4, 3}},       // 2.5, 4.17, 3.33
		{10, []int{1, 2, 3, 5}, []int{1, 2, 3, 4}}, // 0.91, 1.82, 2.73, 4.55
		{2, []int{1, 3, 3, 1}, []int{0, 1, 1, 0}},  // 0.25, 0.75, 0.75, 0.25
		{1, []int{1, 3, 3, 1}, []int{0, 1, 0, 0}},  // 0.125, 0.375: of equal ones the first one
		{15, []int{1_380, 60}, []int{14, 1}},       // 14.375, 0.625
		{1_000_000_000, []int{1_000_000, 1_000_000, 1_000_000}, []int{333_333_334, 333_333_333, 333_333_333}},
		{1_000_000_000, []int{0, 1_000_000}, []int{0, 1_000_000_000}},
		{5_003, equalTo(5_000, 1_000_000), append(equalTo(3, 2), equalTo(4_997, 1)...)},
	} {
		if s, e := meter.Share(x.total, x.weights); !slices.Equal(s, x.want) || e != api.OK {
			t.Errorf("%d %v: %v %d", x.total, x.weights, s, e)
		}
	}
}

// P2.3: what Share refuses, and in which order.
func TestShareErrors(t *testing.T) {
	for _, x := range []struct {
		total   int
		weights []int
		want    api.Errno
	}{
		{-1, nil, api.ErrArg},
		{1_000_000_001, []int{1}, api.ErrArg},
		{math.MinInt, []int{1}, api.ErrArg},
		{math.MaxInt, []int{1}, api.ErrArg},
		{0, nil, api.ErrNone},
		{0, []int{}, api.ErrNone},
		{1, equalTo(5_001, -1), api.ErrLarge},
		{1, []int{1, -1}, api.ErrArg},
		{1, []int{1_000_001, 1}, api.ErrArg},
		{1, []int{1, math.MinInt}, api.ErrArg},
		{1, []int{math.MaxInt, math.MaxInt}, api.ErrArg},
		{1, []int{0}, api.ErrArg},
		{0, []int{0, 0, 0}, api.ErrArg},
	} {
		if s, e := meter.Share(x.total, x.weights); len(s) != 0 || e != x.want {
			t.Errorf("%d %d weights: %v %d", x.total, len(x.weights), s, e)
		}
	}
}

// P2.3: parts add up to the total, and are those that giving one by one makes.
func TestShareOfSome(t *testing.T) {
	r := rand.New(rand.NewSource(3))
	for range 2_000 {
		total := r.Intn(60)
		weights := []int{1 + r.Intn(5)}
		sum := weights[0]
		for range r.Intn(7) * r.Intn(7) {
			weights = append(weights, r.Intn(6))
			sum += weights[len(weights)-1]
		}
		want := make([]int, len(weights))
		rest := make([]int, len(weights))
		left := total
		for i, w := range weights {
			want[i], rest[i] = total*w/sum, total*w%sum
			left -= want[i]
		}
		for ; left > 0; left-- {
			i := slices.Index(rest, slices.Max(rest))
			want[i]++
			rest[i] = -1
		}
		if s, e := meter.Share(total, weights); !slices.Equal(s, want) || e != api.OK {
			t.Fatalf("%d %v: %v %d, not %v", total, weights, s, e, want)
		}
	}
}

// P2.3: what a counter sold on days.
func TestDays(t *testing.T) {
	m := api.Meter{Counters: 2, Turn: 1_000, Fast: 999}
	for _, x := range []struct {
		l       []api.Reading
		counter int
		want    []api.DayCount
	}{
		// 1380 and 60 minutes: 14.375 and 0.625
		{[]api.Reading{reading(60, 0, 0), reading(1_500, 15, 7)}, 0, []api.DayCount{{Day: 0, Many: 14}, {Day: 1, Many: 1}}},
		{[]api.Reading{reading(60, 0, 0), reading(1_500, 15, 7)}, 1, []api.DayCount{{Day: 0, Many: 7}}},
		// up to midnight: nothing on the day that begins
		{[]api.Reading{reading(1_439, 0, 0), reading(1_440, 9, 0)}, 0, []api.DayCount{{Day: 0, Many: 9}}},
		{[]api.Reading{reading(1_440, 0, 0), reading(1_441, 9, 0)}, 0, []api.DayCount{{Day: 1, Many: 9}}},
		// nothing was sold
		{[]api.Reading{reading(0, 5, 0), reading(9_000, 5, 1)}, 0, nil},
		// 3 whole days and 10 units
		{[]api.Reading{reading(0, 990, 0), reading(4_320, 0, 0)}, 0, []api.DayCount{{Day: 0, Many: 4}, {Day: 1, Many: 3}, {Day: 2, Many: 3}}},
		// several steps on a day, told in another order
		{
			[]api.Reading{reading(3_000, 9, 0), reading(100, 1, 0), reading(0, 0, 0), reading(200, 3, 0), reading(2_900, 3, 0)}, 0,
			[]api.DayCount{{Day: 0, Many: 3}, {Day: 2, Many: 6}},
		},
		{[]api.Reading{reading(api.End-2, 0, 0), reading(api.End-1, 3, 0)}, 0, []api.DayCount{{Day: api.MaxDay, Many: 3}}},
	} {
		if d, e := meter.Days(m, x.l, x.counter); !same(d, x.want) || e != api.OK {
			t.Errorf("%v %d: %v %d", x.l, x.counter, d, e)
		}
	}
	// a reset: the values behind it
	slow := api.Meter{Counters: 1, Turn: 1_000, Fast: 1}
	if d, e := meter.Days(slow, []api.Reading{reading(10, 0), reading(20, 500)}, 0); !same(d, []api.DayCount{{Day: 0, Many: 500}}) || e != api.OK {
		t.Error(d, e)
	}
	// as many days as there can be: as many as units, and the last day gets one by its remainder
	slow.Turn = 10_000
	if d, e := meter.Days(slow, []api.Reading{reading(0, 0), reading(api.End-1, 4_001)}, 0); len(d) != 4_001 || d[4_000] != (api.DayCount{Day: 4_000, Many: 1}) || e != api.OK {
		t.Error(len(d), e)
	}
}

// P2.3: days are of counters that there are.
func TestDaysErrors(t *testing.T) {
	for _, c := range []int{-1, 2, math.MinInt, math.MaxInt} {
		if d, e := meter.Days(two(), []api.Reading{reading(0, 1, 1), reading(9, 2, 2)}, c); len(d) != 0 || e != api.ErrArg {
			t.Errorf("%d: %v %d", c, d, e)
		}
	}
}

// P2.3: days add up to Sold, are in order, and none has 0.
func TestDaysOfSome(t *testing.T) {
	r := rand.New(rand.NewSource(4))
	for range 300 {
		m := api.Meter{Counters: 2, Turn: 100, Fast: 1 + r.Intn(99)}
		l := shuffled(r, someReadings(r, m, 10))
		sold, _ := meter.Sold(m, l)
		for c := range sold {
			days, e := meter.Days(m, l, c)
			sum, last := 0, -1
			for _, d := range days {
				if d.Day <= last || d.Many < 1 {
					t.Fatal(l, days)
				}
				sum, last = sum+d.Many, d.Day
			}
			if sum != sold[c] || e != api.OK {
				t.Fatal(l, days, sold[c], e)
			}
		}
	}
}
