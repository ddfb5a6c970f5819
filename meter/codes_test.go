package meter_test

import (
	"math"
	"math/rand"
	"slices"
	"strings"
	"testing"

	"coilrack/api"
	"coilrack/meter"
)

func on(at int, key string) api.Code { return api.Code{At: at, Key: key, On: true} }

func off(at int, key string) api.Code { return api.Code{At: at, Key: key} }

// someCodes makes up to most codes with few keys, in the first 30 minutes.
func someCodes(r *rand.Rand, most int) []api.Code {
	var l []api.Code
	for range r.Intn(most + 1) {
		l = append(l, api.Code{At: r.Intn(30), Key: string("abcd"[r.Intn(4)]), On: r.Intn(2) == 0})
	}
	slices.SortStableFunc(l, func(a, b api.Code) int {
		if a.At != b.At {
			return a.At - b.At
		}
		return strings.Compare(a.Key, b.Key)
	})
	return l
}

// lit reports for each of the first 40 minutes whether a code is on: the last entry until it decides.
func lit(l []api.Code, code string) []bool {
	is := make([]bool, 40)
	for i := range is {
		for _, c := range l {
			if c.Key == code && c.At <= i {
				is[i] = c.On
			}
		}
	}
	return is
}

// badCodes is lists of codes with their errors.
func badCodes() map[string]struct {
	l    []api.Code
	want api.Errno
} {
	type row = struct {
		l    []api.Code
		want api.Errno
	}
	return map[string]row{
		"too many, before others": {make([]api.Code, api.MaxCodes+1), api.ErrLarge},
		"below 0":                 {[]api.Code{on(-1, "a")}, api.ErrArg},
		"least moment":            {[]api.Code{on(math.MinInt, "a")}, api.ErrArg},
		"at the end":              {[]api.Code{on(api.End, "a")}, api.ErrArg},
		"greatest moment":         {[]api.Code{on(5, "a"), on(math.MaxInt, "a")}, api.ErrArg},
		"no name":                 {[]api.Code{on(5, "")}, api.ErrName},
		"no key":                  {[]api.Code{on(5, "a"), on(5, "A")}, api.ErrName},
		"a long name":             {[]api.Code{on(5, strings.Repeat("a", 41))}, api.ErrName},
		"earlier":                 {[]api.Code{on(5, "a"), on(4, "b")}, api.ErrOrder},
		"less key":                {[]api.Code{on(5, "b"), on(5, "a")}, api.ErrOrder},
		"moment before name":      {[]api.Code{on(-1, "A")}, api.ErrArg},
		"name before order":       {[]api.Code{on(5, "b"), on(4, "A")}, api.ErrName},
		"the first one first":     {[]api.Code{on(5, "b"), on(4, "b"), on(-1, "A")}, api.ErrOrder},
	}
}

// P2.6: what is wrong with codes; all functions with codes return this error first.
func TestCheckCodes(t *testing.T) {
	for name, x := range badCodes() {
		if e := meter.CheckCodes(x.l); e != x.want {
			t.Errorf("%s: CheckCodes %d", name, e)
		}
		if w, e := meter.Faulty(x.l, ""); len(w) != 0 || e != x.want {
			t.Errorf("%s: Faulty %v %d", name, w, e)
		}
		if n, e := meter.Down(x.l, make([]string, 51), api.Window{From: -1}); n != 0 || e != x.want {
			t.Errorf("%s: Down %d %d", name, n, e)
		}
		if f, e := meter.Diagnose(x.l, make([]api.Rule, 51)); len(f) != 0 || e != x.want {
			t.Errorf("%s: Diagnose %v %d", name, f, e)
		}
	}
	full := slices.Repeat([]api.Code{on(7, "a")}, api.MaxCodes)
	for _, l := range [][]api.Code{
		nil, {}, full, {on(0, "a"), on(api.End-1, "a")}, {on(5, "a"), off(5, "a"), on(5, "a"), on(5, "a-"), off(6, "a")},
	} {
		if e := meter.CheckCodes(l); e != api.OK {
			t.Errorf("%v: %d", l, e)
		}
	}
}

// P2.6: windows in which a code is on.
func TestFaulty(t *testing.T) {
	for name, x := range map[string]struct {
		l    []api.Code
		want []api.Window
	}{
		"no codes":                  {nil, nil},
		"other codes":               {[]api.Code{on(5, "b"), off(7, "b"), on(9, "aa")}, nil},
		"begins and ends":           {[]api.Code{on(5, "a"), off(7, "a")}, []api.Window{{From: 5, To: 7}}},
		"does not end":              {[]api.Code{on(5, "a")}, []api.Window{{From: 5, To: api.End}}},
		"the last minute":           {[]api.Code{on(api.End-1, "a")}, []api.Window{{From: api.End - 1, To: api.End}}},
		"does not begin":            {[]api.Code{off(5, "a")}, nil},
		"others in between":         {[]api.Code{on(5, "a"), off(6, "b"), off(7, "a"), off(8, "b")}, []api.Window{{From: 5, To: 7}}},
		"begins again":              {[]api.Code{on(5, "a"), on(6, "a"), off(7, "a"), off(9, "a")}, []api.Window{{From: 5, To: 7}}},
		"two windows":               {[]api.Code{on(5, "a"), off(7, "a"), on(8, "a"), off(9, "a")}, []api.Window{{From: 5, To: 7}, {From: 8, To: 9}}},
		"on for no minute":          {[]api.Code{on(5, "a"), off(5, "a")}, nil},
		"off for no minute":         {[]api.Code{on(5, "a"), off(7, "a"), on(7, "a"), off(9, "a")}, []api.Window{{From: 5, To: 9}}},
		"off, on and off in one":    {[]api.Code{on(5, "a"), off(7, "a"), on(7, "a"), off(7, "a")}, []api.Window{{From: 5, To: 7}}},
		"on, off and on in one":     {[]api.Code{on(5, "a"), off(5, "a"), on(5, "a"), off(6, "a")}, []api.Window{{From: 5, To: 6}}},
		"off, on, off, on in one":   {[]api.Code{on(5, "a"), off(7, "a"), on(7, "a"), off(7, "a"), on(7, "a")}, []api.Window{{From: 5, To: api.End}}},
		"no minute behind a window": {[]api.Code{on(5, "a"), off(7, "a"), on(9, "a"), off(9, "a")}, []api.Window{{From: 5, To: 7}}},
	} {
		if w, e := meter.Faulty(x.l, "a"); !same(w, x.want) || e != api.OK {
			t.Errorf("%s: %v %d", name, w, e)
		}
	}
	for _, code := range []string{"", "A", "-a", "a b", strings.Repeat("a", 41)} {
		if w, e := meter.Faulty([]api.Code{on(5, "a")}, code); len(w) != 0 || e != api.ErrName {
			t.Errorf("%q: %v %d", code, w, e)
		}
	}
}

// P2.6: for how many minutes some code is on.
func TestDown(t *testing.T) {
	l := []api.Code{on(10, "door"), on(20, "heat"), off(30, "door"), off(50, "heat"), on(60, "door"), off(70, "door"), on(70, "heat")}
	both := []string{"door", "heat"}
	for _, x := range []struct {
		codes []string
		w     api.Window
		want  int
	}{
		{both, api.Window{From: 0, To: 40}, 30},
		{both, api.Window{From: 0, To: api.End}, 40 + api.End - 60},
		{both, api.Window{From: 55, To: 75}, 15},
		{[]string{"heat", "door", "heat"}, api.Window{From: 25, To: 65}, 30},
		{[]string{"door"}, api.Window{From: 0, To: 100}, 30},
		{[]string{"heat"}, api.Window{From: 0, To: 100}, 60},
		{[]string{"cold"}, api.Window{From: 0, To: 100}, 0},
		{nil, api.Window{From: 0, To: 100}, 0},
		{both, api.Window{From: 20, To: 20}, 0},
		{both, api.Window{From: 0, To: 10}, 0},
		{both, api.Window{From: 10, To: 11}, 1},
		{both, api.Window{From: 50, To: 60}, 0},
		{both, api.Window{From: api.End, To: api.End}, 0},
		{both, api.Window{From: api.End - 1, To: api.End}, 1},
	} {
		if n, e := meter.Down(l, x.codes, x.w); n != x.want || e != api.OK {
			t.Errorf("%v %v: %d %d", x.codes, x.w, n, e)
		}
	}
}

// P2.6: what Down refuses, and in which order.
func TestDownErrors(t *testing.T) {
	good := api.Window{From: 0, To: 9}
	for name, x := range map[string]struct {
		codes []string
		w     api.Window
		want  api.Errno
	}{
		"as many codes as can be": {slices.Repeat([]string{"b"}, 50), good, api.OK},
		"too many codes":          {make([]string, 51), api.Window{From: -1}, api.ErrLarge},
		"no key":                  {[]string{"a", ""}, api.Window{From: -1}, api.ErrName},
		"another one":             {[]string{"a", "B"}, good, api.ErrName},
		"from below 0":            {nil, api.Window{From: -1, To: 5}, api.ErrArg},
		"least from":              {nil, api.Window{From: math.MinInt, To: 5}, api.ErrArg},
		"greatest from":           {nil, api.Window{From: math.MaxInt, To: 5}, api.ErrArg},
		"to before from":          {nil, api.Window{From: 5, To: 4}, api.ErrArg},
		"least to":                {nil, api.Window{From: 5, To: math.MinInt}, api.ErrArg},
		"to after the end":        {nil, api.Window{From: 5, To: api.End + 1}, api.ErrArg},
		"from after the end":      {nil, api.Window{From: api.End + 1, To: api.End + 1}, api.ErrArg},
		"greatest to":             {nil, api.Window{From: 5, To: math.MaxInt}, api.ErrArg},
	} {
		if n, e := meter.Down([]api.Code{on(5, "a")}, x.codes, x.w); n != 0 || e != x.want {
			t.Errorf("%s: %d %d", name, n, e)
		}
	}
}

// P2.6: Faulty and Down against every minute; Down of a window is the sum of its parts' Down.
func TestCodesOfSome(t *testing.T) {
	r := rand.New(rand.NewSource(8))
	for range 1_000 {
		l := someCodes(r, 20)
		is := lit(l, "a")
		w, e := meter.Faulty(l, "a")
		if want := windows(is); !same(w, want) || e != api.OK {
			t.Fatalf("%v: %v %d, not %v", l, w, e, want)
		}
		some := lit(l, "c")
		for i := range some {
			some[i] = some[i] || is[i]
		}
		from := r.Intn(40)
		mid := from + r.Intn(41-from)
		to := mid + r.Intn(41-mid)
		want := 0
		for i := from; i < to; i++ {
			if some[i] {
				want++
			}
		}
		codes := []string{"c", "a", "e"}
		whole, e := meter.Down(l, codes, api.Window{From: from, To: to})
		first, f := meter.Down(l, codes, api.Window{From: from, To: mid})
		second, g := meter.Down(l, codes, api.Window{From: mid, To: to})
		if whole != want || first+second != want || e != api.OK || f != api.OK || g != api.OK {
			t.Fatalf("%v %d %d %d: %d %d %d, not %d", l, from, mid, to, whole, first, second, want)
		}
	}
}

// windows makes windows of minutes; what is on in the last one does not end.
func windows(is []bool) []api.Window {
	var l []api.Window
	for i, b := range is {
		if b && (i == 0 || !is[i-1]) {
			l = append(l, api.Window{From: i})
		}
		if b {
			l[len(l)-1].To = i + 1
		}
	}
	if is[len(is)-1] {
		l[len(l)-1].To = api.End
	}
	return l
}
