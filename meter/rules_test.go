package meter_test

import (
	"math"
	"math/rand"
	"reflect"
	"slices"
	"strings"
	"sync"
	"testing"

	"coilrack/api"
	"coilrack/meter"
)

// Z1 and Z6: no int makes a function panic or overflow.
func TestAllInts(t *testing.T) {
	ints := []int{math.MinInt, math.MinInt + 1, -1, 0, 1, 2, 10, 1_000, api.End, 1_000_000, math.MaxInt - 1, math.MaxInt}
	for _, a := range ints {
		for _, b := range ints {
			m := api.Meter{Counters: 1, Turn: a, Fast: b}
			if e := meter.CheckMeter(m); (e == api.OK) != (a >= 10 && a <= 1_000_000 && b >= 1 && b < a) {
				t.Errorf("%v: %d", m, e)
			}
			l := []api.Reading{reading(a, b, 0), reading(b, a, 0), reading(7, a, b)}
			for _, m := range []api.Meter{two(), {Counters: a, Turn: b, Fast: 1}} {
				meter.CheckReading(m, l[0])
				meter.Sort(m, l)
				meter.Days(m, l, a)
				meter.Agree(m, nil, []int{a, b}, b)
				meter.NewLog(m)
			}
			meter.Gaps(l, a)
			meter.Share(a, []int{b, a, b})
			meter.Encode(reading(a, b))
			x := newLog(t, two())
			x.Put(l[0])
			codes := []api.Code{on(5, "a"), off(9, "a")}
			meter.CheckCodes([]api.Code{on(a, "a"), off(b, "a")})
			meter.Down(codes, []string{"a"}, api.Window{From: a, To: b})
			meter.Diagnose(codes, []api.Rule{rule("f", a, "a")})
		}
	}
}

// Z1: no string makes a function panic.
func TestAllStrings(t *testing.T) {
	for _, s := range []string{"", "\x00", "\xff\xfe", "ä", "-", "*", " *", strings.Repeat("-", 200_000), strings.Repeat("é,", 400)} {
		meter.Decode(s)
		meter.Decode(s + " *00")
		meter.Faulty(nil, s)
		meter.CheckCodes([]api.Code{on(5, s)})
		meter.Down(nil, []string{s}, api.Window{})
		meter.CheckRules([]api.Rule{rule(s, 1, s)})
	}
}

// Z1: functions without objects at once.
func TestAtOnce(t *testing.T) {
	l := []api.Reading{reading(1_500, 5, 0), reading(60, 90, 0)}
	codes := []api.Code{on(5, "a"), off(9, "a")}
	var w sync.WaitGroup
	for range 8 {
		w.Go(func() {
			for range 50 {
				if s, e := meter.Sold(two(), l); !slices.Equal(s, []int{15, 0}) || e != api.OK {
					t.Error(s, e)
				}
				if n, e := meter.Down(codes, []string{"a"}, api.Window{From: 0, To: 7}); n != 2 || e != api.OK {
					t.Error(n, e)
				}
			}
		})
	}
	w.Wait()
}

// Z2: arguments are not modified, and what is behind their length is not looked at.
func TestArguments(t *testing.T) {
	make3 := func() []api.Reading {
		return []api.Reading{reading(1_500, 5, 6), reading(60, 90, 1), reading(60, 90, 1), reading(-1)}
	}
	behind := make3()
	l := behind[:3]
	for i := range l {
		l[i].Values = append(l[i].Values, -1)[:2]
	}
	weights, sold := []int{3, 1, 2}, []int{1, 2}
	meter.Sort(two(), l)
	meter.Steps(two(), l)
	meter.Sold(two(), l)
	meter.Resets(two(), l)
	meter.Days(two(), l, 0)
	meter.Gaps(l, 5)
	meter.Agree(two(), l, sold, 0)
	meter.Share(10, weights)
	meter.Encode(l[0])
	if !reflect.DeepEqual(behind, make3()) || l[0].Values[:3][2] != -1 {
		t.Error(behind)
	}
	if !slices.Equal(weights, []int{3, 1, 2}) || !slices.Equal(sold, []int{1, 2}) {
		t.Error(weights, sold)
	}
	codes := []api.Code{on(5, "a"), on(7, "b"), off(9, "a"), off(-1, "")}
	asked := []string{"b", "a", "b"}
	rules := []api.Rule{without(rule("z", 1, "b", "a"), "d", "c"), rule("f", 1, "a")}
	meter.Faulty(codes[:3], "a")
	meter.Down(codes[:3], asked, api.Window{From: 0, To: 20})
	meter.Diagnose(codes[:3], rules)
	if !slices.Equal(codes, []api.Code{on(5, "a"), on(7, "b"), off(9, "a"), off(-1, "")}) || !slices.Equal(asked, []string{"b", "a", "b"}) {
		t.Error(codes, asked)
	}
	if !reflect.DeepEqual(rules, []api.Rule{without(rule("z", 1, "b", "a"), "d", "c"), rule("f", 1, "a")}) {
		t.Error(rules)
	}
}

// Z2: changing a result changes nothing else.
func TestResultsAreNew(t *testing.T) {
	m := api.Meter{Counters: 1, Turn: 100, Fast: 5}
	l := []api.Reading{reading(0, 1), reading(5, 50), reading(5, 50)}
	s, _ := meter.Sort(m, l)
	s[0].Values[0], s[1].Values[0] = 7, 7
	steps, _ := meter.Steps(m, l)
	steps[0].Sold[0] = 7
	if !reflect.DeepEqual(l, []api.Reading{reading(0, 1), reading(5, 50), reading(5, 50)}) {
		t.Error(l)
	}
	weights := []int{1, 2}
	parts, _ := meter.Share(3, weights)
	parts[0], parts[1] = 9, 9
	if !slices.Equal(weights, []int{1, 2}) {
		t.Error(weights)
	}
}

// Z2: a log keeps nothing that it was given, and gives out nothing that it keeps.
func TestLogCopies(t *testing.T) {
	x, o := newLog(t, two()), newLog(t, two())
	values := []int{1, 2}
	put(t, x, api.Reading{At: 5, Values: values})
	values[0] = 50
	if n, e := o.Join(x); n != 1 || e != api.OK {
		t.Fatal(n, e)
	}
	for _, l := range []*meter.Log{x, o, x} {
		got := l.Readings()
		got[0].Values[1] = 60
		got[0].At = 6
		has(t, x, reading(5, 1, 2))
		has(t, o, reading(5, 1, 2))
	}
	put(t, x, reading(7, 0, 0))
	has(t, o, reading(5, 1, 2))
}

// Z7: the same arguments give the same results.
func TestSame(t *testing.T) {
	r := rand.New(rand.NewSource(10))
	l := someReadings(r, two(), 40)
	codes := someCodes(r, 60)
	rules := []api.Rule{rule("z", 1, "a"), rule("y", 1, "b"), rule("x", 1, "c"), without(rule("w", 1, "d"), "a"), rule("v", 2, "a", "b")}
	x := newLog(t, two())
	put(t, x, l...)
	days, _ := meter.Days(two(), l, 0)
	found, _ := meter.Diagnose(codes, rules)
	for range 20 {
		if d, _ := meter.Days(two(), l, 0); !same(d, days) {
			t.Fatal(d, days)
		}
		if f, _ := meter.Diagnose(codes, rules); !same(f, found) {
			t.Fatal(f, found)
		}
		has(t, x, l...)
	}
}
