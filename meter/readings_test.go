package meter_test

import (
	"math"
	"math/rand"
	"reflect"
	"slices"
	"testing"

	"coilrack/api"
	"coilrack/meter"
)

// two is a meter with two counters.
func two() api.Meter { return api.Meter{Counters: 2, Turn: 100, Fast: 50} }

func reading(at int, values ...int) api.Reading { return api.Reading{At: at, Values: values} }

// same compares lists, where an empty and a nil one are equal.
func same[T any](a, b []T) bool { return len(a) == 0 && len(b) == 0 || reflect.DeepEqual(a, b) }

// manyReadings makes n readings of two counters that are only right in their number.
func manyReadings(n int) []api.Reading {
	var l []api.Reading
	for i := range n {
		l = append(l, reading(i, i%100, 0))
	}
	return l
}

func shuffled(r *rand.Rand, l []api.Reading) []api.Reading {
	l = slices.Clone(l)
	r.Shuffle(len(l), func(i, j int) { l[i], l[j] = l[j], l[i] })
	return l
}

// someReadings makes up to most readings of a meter, in order.
func someReadings(r *rand.Rand, m api.Meter, most int) []api.Reading {
	var l []api.Reading
	at := r.Intn(5_000)
	for range r.Intn(most + 1) {
		values := make([]int, m.Counters)
		for i := range values {
			values[i] = r.Intn(m.Turn)
			if len(l) > 0 && r.Intn(4) > 0 {
				values[i] = (l[len(l)-1].Values[i] + r.Intn(m.Fast+1)) % m.Turn
			}
		}
		l = append(l, api.Reading{At: at, Values: values})
		at += 1 + r.Intn(4_000)
	}
	return l
}

// P2.1: what is wrong with a meter.
func TestCheckMeter(t *testing.T) {
	for _, m := range []api.Meter{
		two(), {Counters: 1, Turn: 10, Fast: 1}, {Counters: 60, Turn: 1_000_000, Fast: 999_999}, {Counters: 1, Turn: 10, Fast: 9},
	} {
		if e := meter.CheckMeter(m); e != api.OK {
			t.Errorf("%v: %d", m, e)
		}
	}
	for _, m := range badMeters() {
		if e := meter.CheckMeter(m); e != api.ErrArg {
			t.Errorf("%v: %d", m, e)
		}
	}
}

func badMeters() []api.Meter {
	return []api.Meter{
		{}, {Counters: 0, Turn: 100, Fast: 5}, {Counters: -1, Turn: 100, Fast: 5}, {Counters: 61, Turn: 100, Fast: 5},
		{Counters: math.MinInt, Turn: 100, Fast: 5}, {Counters: math.MaxInt, Turn: 100, Fast: 5},
		{Counters: 1, Turn: 9, Fast: 5}, {Counters: 1, Turn: 1_000_001, Fast: 5}, {Counters: 1, Turn: math.MinInt, Fast: 5},
		{Counters: 1, Turn: math.MaxInt, Fast: 5}, {Counters: 1, Turn: 100, Fast: 0}, {Counters: 1, Turn: 100, Fast: -1},
		{Counters: 1, Turn: 100, Fast: 100}, {Counters: 1, Turn: 100, Fast: math.MaxInt}, {Counters: 1, Turn: 100, Fast: math.MinInt},
	}
}

// P2.1: what is wrong with a reading, and the order of its errors.
func TestCheckReading(t *testing.T) {
	for _, x := range []struct {
		r    api.Reading
		want api.Errno
	}{
		{reading(0, 0, 0), api.OK},
		{reading(api.End-1, 99, 99), api.OK},
		{reading(-1, 0, 0), api.ErrArg},
		{reading(math.MinInt, 0, 0), api.ErrArg},
		{reading(api.End, 0, 0), api.ErrArg},
		{reading(math.MaxInt, 0, 0), api.ErrArg},
		{reading(0), api.ErrForm},
		{reading(0, 1), api.ErrForm},
		{reading(0, 1, 2, 3), api.ErrForm},
		{reading(0, 0, -1), api.ErrArg},
		{reading(0, 100, 0), api.ErrArg},
		{reading(0, math.MinInt, 0), api.ErrArg},
		{reading(0, 0, math.MaxInt), api.ErrArg},
		{reading(-1, 1), api.ErrArg},
		{reading(0, 100), api.ErrForm},
	} {
		if e := meter.CheckReading(two(), x.r); e != x.want {
			t.Errorf("%v: %d", x.r, e)
		}
	}
	for _, m := range badMeters() {
		if e := meter.CheckReading(m, reading(0)); e != api.ErrArg {
			t.Errorf("%v: %d", m, e)
		}
	}
}

// badReadings is lists of readings of the meter two with their errors.
func badReadings() map[string]struct {
	l    []api.Reading
	want api.Errno
} {
	type row = struct {
		l    []api.Reading
		want api.Errno
	}
	many := manyReadings(api.MaxReadings + 1)
	many[0].At = -1
	return map[string]row{
		"too many, before others":      {many, api.ErrLarge},
		"no moment":                    {[]api.Reading{reading(api.End, 1, 2)}, api.ErrArg},
		"too few values":               {[]api.Reading{reading(5, 1, 2), reading(6, 1)}, api.ErrForm},
		"a great value":                {[]api.Reading{reading(5, 1, 2), reading(6, 1, 100)}, api.ErrArg},
		"the first one first":          {[]api.Reading{reading(5, 1), reading(-6, 1, 100)}, api.ErrForm},
		"a conflict":                   {[]api.Reading{reading(5, 1, 2), reading(5, 1, 3)}, api.ErrConflict},
		"a conflict far apart":         {[]api.Reading{reading(5, 1, 2), reading(9, 0, 0), reading(1, 0, 0), reading(5, 2, 2)}, api.ErrConflict},
		"a conflict behind equal ones": {[]api.Reading{reading(5, 1, 2), reading(5, 1, 2), reading(5, 0, 2)}, api.ErrConflict},
		"all readings before conflict": {[]api.Reading{reading(5, 1, 2), reading(5, 1, 3), reading(7, 1)}, api.ErrForm},
	}
}

// P2.1: every function with a meter and readings returns Sort's error first, and with it nothing else.
func TestReadingsFirst(t *testing.T) {
	check := func(name string, m api.Meter, l []api.Reading, want api.Errno) {
		if s, e := meter.Sort(m, l); len(s) != 0 || e != want {
			t.Errorf("%s: Sort %v %d", name, s, e)
		}
		if s, e := meter.Steps(m, l); len(s) != 0 || e != want {
			t.Errorf("%s: Steps %v %d", name, s, e)
		}
		if s, e := meter.Sold(m, l); len(s) != 0 || e != want {
			t.Errorf("%s: Sold %v %d", name, s, e)
		}
		if s, e := meter.Resets(m, l); len(s) != 0 || e != want {
			t.Errorf("%s: Resets %v %d", name, s, e)
		}
		if s, e := meter.Days(m, l, -1); len(s) != 0 || e != want {
			t.Errorf("%s: Days %v %d", name, s, e)
		}
		if s, e := meter.Agree(m, l, nil, -1); len(s) != 0 || e != want {
			t.Errorf("%s: Agree %v %d", name, s, e)
		}
	}
	for name, x := range badReadings() {
		check(name, two(), x.l, x.want)
	}
	for _, m := range badMeters() {
		check("bad meter", m, manyReadings(api.MaxReadings+1), api.ErrArg)
	}
}

// P2.1: readings by At, each once.
func TestSort(t *testing.T) {
	for _, x := range []struct{ l, want []api.Reading }{
		{nil, nil},
		{[]api.Reading{reading(5, 1, 2)}, []api.Reading{reading(5, 1, 2)}},
		{[]api.Reading{reading(5, 1, 2), reading(5, 1, 2), reading(5, 1, 2)}, []api.Reading{reading(5, 1, 2)}},
		{
			[]api.Reading{reading(9, 1, 2), reading(0, 3, 4), reading(9, 1, 2), reading(api.End-1, 0, 0), reading(5, 1, 2)},
			[]api.Reading{reading(0, 3, 4), reading(5, 1, 2), reading(9, 1, 2), reading(api.End-1, 0, 0)},
		},
	} {
		if s, e := meter.Sort(two(), x.l); !same(s, x.want) || e != api.OK {
			t.Errorf("%v: %v %d", x.l, s, e)
		}
	}
	full := manyReadings(api.MaxReadings)
	if s, e := meter.Sort(two(), shuffled(rand.New(rand.NewSource(1)), full)); !same(s, full) || e != api.OK {
		t.Error(len(s), e)
	}
}

// P2.3: windows without readings.
func TestGaps(t *testing.T) {
	l := []api.Reading{reading(30), reading(10, 1), reading(10, 2, 3), reading(11), reading(api.End - 1), reading(20)}
	for _, x := range []struct {
		longest int
		want    []api.Window
	}{
		{0, []api.Window{{From: 10, To: 11}, {From: 11, To: 20}, {From: 20, To: 30}, {From: 30, To: api.End - 1}}},
		{1, []api.Window{{From: 11, To: 20}, {From: 20, To: 30}, {From: 30, To: api.End - 1}}},
		{8, []api.Window{{From: 11, To: 20}, {From: 20, To: 30}, {From: 30, To: api.End - 1}}},
		{9, []api.Window{{From: 20, To: 30}, {From: 30, To: api.End - 1}}},
		{10, []api.Window{{From: 30, To: api.End - 1}}},
		{api.End - 32, []api.Window{{From: 30, To: api.End - 1}}},
		{api.End - 31, nil},
		{api.End, nil},
	} {
		if g, e := meter.Gaps(l, x.longest); !same(g, x.want) || e != api.OK {
			t.Errorf("%d: %v %d", x.longest, g, e)
		}
	}
	for _, few := range [][]api.Reading{nil, {reading(7)}, {reading(7), reading(7)}} {
		if g, e := meter.Gaps(few, 0); len(g) != 0 || e != api.OK {
			t.Errorf("%v: %v %d", few, g, e)
		}
	}
}

// P2.3: what Gaps refuses, and in which order.
func TestGapsErrors(t *testing.T) {
	many := manyReadings(api.MaxReadings + 1)
	many[0].At = -1
	for _, x := range []struct {
		l       []api.Reading
		longest int
		want    api.Errno
	}{
		{many, -1, api.ErrLarge},
		{manyReadings(api.MaxReadings), 1, api.OK},
		{[]api.Reading{reading(1), reading(-1)}, 5, api.ErrArg},
		{[]api.Reading{reading(1), reading(api.End)}, 5, api.ErrArg},
		{[]api.Reading{reading(1), reading(100)}, -1, api.ErrArg},
		{[]api.Reading{reading(1), reading(100)}, api.End + 1, api.ErrArg},
		{nil, math.MinInt, api.ErrArg},
		{nil, math.MaxInt, api.ErrArg},
	} {
		if g, e := meter.Gaps(x.l, x.longest); len(g) != 0 || e != x.want {
			t.Errorf("%d readings, %d: %v %d", len(x.l), x.longest, g, e)
		}
	}
}
