package round_test

import (
	"fmt"
	"math"
	"math/rand"
	"slices"
	"strings"
	"testing"

	"coilrack/api"
	"coilrack/round"
)

// site makes a site of pairs: Have and Rate of each slot.
func site(key string, slots ...int) api.Site {
	s := api.Site{Key: key}
	for pair := range slices.Chunk(slots, 2) {
		s.Have = append(s.Have, pair[0])
		s.Rate = append(s.Rate, pair[1])
	}
	return s
}

// lists makes a site of lists.
func lists(key string, have, rate []int) api.Site {
	return api.Site{Key: key, Have: have, Rate: rate}
}

// keys makes n keys in order.
func keys(n int) []string {
	var l []string
	for i := range n {
		l = append(l, fmt.Sprintf("k%04d", i))
	}
	return l
}

// manySites makes n sites that are as large as they can be: the last one is the most urgent.
func manySites(n int) []api.Site {
	var l []api.Site
	for i, k := range keys(n) {
		have, rate := slices.Repeat([]int{10_000}, 60), slices.Repeat([]int{1_000}, 60)
		have[i%60] = 10_000 - 10*i
		l = append(l, lists(k, have, rate))
	}
	return l
}

// badSites is lists of sites with their errors.
func badSites() map[string]struct {
	l    []api.Site
	want api.Errno
} {
	type row = struct {
		l    []api.Site
		want api.Errno
	}
	good, long := site("a", 1, 1), strings.Repeat("k", api.MaxName+1)
	some, many := make([]int, 60), make([]int, 61)
	wrong := append(slices.Clone(many), -1)
	return map[string]row{
		"too many":                    {manySites(api.MaxSites + 1), api.ErrLarge},
		"too many, before others":     {make([]api.Site, api.MaxSites+1), api.ErrLarge},
		"no key":                      {[]api.Site{site("", 1, 1)}, api.ErrName},
		"a key that is none":          {[]api.Site{good, site("B", 1, 1)}, api.ErrName},
		"a long key":                  {[]api.Site{site(long, 1, 1)}, api.ErrName},
		"the same key":                {[]api.Site{good, good}, api.ErrOrder},
		"a lesser key":                {[]api.Site{site("b", 1, 1), good}, api.ErrOrder},
		"a lesser key, later":         {[]api.Site{good, site("c", 1, 1), site("b", 1, 1)}, api.ErrOrder},
		"no slots":                    {[]api.Site{good, site("b")}, api.ErrNone},
		"empty slots":                 {[]api.Site{lists("a", []int{}, []int{})}, api.ErrNone},
		"too many slots":              {[]api.Site{lists("a", many, many)}, api.ErrLarge},
		"no rates":                    {[]api.Site{lists("a", some, nil)}, api.ErrForm},
		"a rate too few":              {[]api.Site{lists("a", some, some[:59])}, api.ErrForm},
		"a rate too many":             {[]api.Site{lists("a", some, many)}, api.ErrForm},
		"have too small":              {[]api.Site{site("a", 1, 1, -1, 1)}, api.ErrArg},
		"have too great":              {[]api.Site{site("a", 1, 1, 10_001, 1)}, api.ErrArg},
		"rate too small":              {[]api.Site{good, site("b", 1, 1, 1, -1)}, api.ErrArg},
		"rate too great":              {[]api.Site{site("a", 1, 1_000_001)}, api.ErrArg},
		"the least have":              {[]api.Site{site("a", math.MinInt, 1)}, api.ErrArg},
		"the greatest have":           {[]api.Site{site("a", math.MaxInt, 1)}, api.ErrArg},
		"the least rate":              {[]api.Site{site("a", 1, math.MinInt)}, api.ErrArg},
		"the greatest rate":           {[]api.Site{site("a", 1, math.MaxInt)}, api.ErrArg},
		"the last slot":               {[]api.Site{lists("a", append(slices.Clone(some[:59]), -1), some)}, api.ErrArg},
		"key before order":            {[]api.Site{good, site("", 1, 1)}, api.ErrName},
		"key before slots":            {[]api.Site{site("")}, api.ErrName},
		"order before slots":          {[]api.Site{good, site("a")}, api.ErrOrder},
		"none before the form":        {[]api.Site{lists("a", nil, []int{1})}, api.ErrNone},
		"large before the form":       {[]api.Site{lists("a", many, some)}, api.ErrLarge},
		"large before each":           {[]api.Site{lists("a", wrong, wrong)}, api.ErrLarge},
		"the form before each":        {[]api.Site{lists("a", []int{-1, 1}, []int{1})}, api.ErrForm},
		"the first one first":         {[]api.Site{site("b", -1, 1), site("", 1, 1)}, api.ErrArg},
		"all of the first one first":  {[]api.Site{site("b"), site("a", 1, 1)}, api.ErrNone},
		"all of the second one first": {[]api.Site{good, lists("b", []int{1}, nil), site("a", 1, 1)}, api.ErrForm},
	}
}

// P6.1: what is wrong with sites, of all functions that take them, before their own errors.
func TestBadSites(t *testing.T) {
	for name, x := range badSites() {
		if e := round.CheckSites(x.l); e != x.want {
			t.Errorf("%s: %d", name, e)
		}
		if n, e := round.Left(x.l); len(n) != 0 || e != x.want {
			t.Errorf("%s: Left %v %d", name, n, e)
		}
		for _, days := range []int{5, -1} {
			if k, e := round.Due(x.l, days); len(k) != 0 || e != x.want {
				t.Errorf("%s: Due %v %d", name, k, e)
			}
		}
	}
}

// P6.1: sites that are right.
func TestGoodSites(t *testing.T) {
	some := make([]int, 60)
	for _, l := range [][]api.Site{
		nil, {}, manySites(api.MaxSites),
		{site("a", 0, 0), site("a-", 10_000, 1_000_000), site("aa", 0, 1_000_000), site("b", 10_000, 0)},
		{lists(strings.Repeat("k", api.MaxName), some, some)},
	} {
		if e := round.CheckSites(l); e != api.OK {
			t.Errorf("%v: %d", l, e)
		}
	}
}

// P6.1: after how many whole days the first slot is empty.
func TestLeft(t *testing.T) {
	for name, x := range map[string]struct {
		s    api.Site
		want int
	}{
		"two slots":                     {site("a", 10, 100, 3, 40), 7},
		"exactly":                       {site("a", 10, 100), 10},
		"rounded down":                  {site("a", 199, 200), 99},
		"just more":                     {site("a", 201, 200), 100},
		"less than a day":               {site("a", 9, 1_000), 0},
		"a day":                         {site("a", 10, 1_000), 1},
		"empty":                         {site("a", 0, 1), 0},
		"the first slot":                {site("a", 2, 100, 3, 100, 4, 100), 2},
		"a slot between":                {site("a", 3, 100, 2, 100, 4, 100), 2},
		"the last slot":                 {site("a", 4, 100, 3, 100, 2, 100), 2},
		"the fast one, not the low one": {site("a", 5, 10, 50, 1_000), 5},
		"empty, but not sold":           {site("a", 0, 0, 7, 100), 7},
		"a slot that is not sold":       {site("a", 7, 100, 5, 0), 7},
		"nothing is sold":               {site("a", 5, 0, 0, 0), api.MaxDay},
		"one less than the last day":    {site("a", 3_999, 100), api.MaxDay - 1},
		"just before the last day":      {site("a", 7_999, 200), api.MaxDay - 1},
		"the last day":                  {site("a", 4_000, 100), api.MaxDay},
		"after the last day":            {site("a", 4_001, 100), api.MaxDay},
		"long after the last day":       {site("a", 10_000, 1), api.MaxDay},
		"one long after, one before":    {site("a", 10_000, 1, 30, 1), 3_000},
		"as fast as there can be":       {site("a", 10_000, 1_000_000), 1},
		"as fast, and one unit less":    {site("a", 9_999, 1_000_000), 0},
		"the slowest that has a limit":  {site("a", 39, 1), 3_900},
	} {
		if n, e := round.Left([]api.Site{x.s}); !slices.Equal(n, []int{x.want}) || e != api.OK {
			t.Errorf("%s: %v %d", name, n, e)
		}
	}
	if n, e := round.Left(nil); len(n) != 0 || e != api.OK {
		t.Error(n, e)
	}
	l := []api.Site{site("a", 5, 100), site("b", 5, 0), site("c", 2, 100)}
	if n, e := round.Left(l); !slices.Equal(n, []int{5, api.MaxDay, 2}) || e != api.OK {
		t.Error(n, e)
	}
}

// P6.1: the sites that are due, the most urgent first.
func TestDue(t *testing.T) {
	l := []api.Site{site("a", 5, 100), site("b", 9, 0), site("c", 2, 100), site("d", 5, 100), site("e", 0, 1), site("f", 2, 100), site("g", 3_999, 100)}
	for _, x := range []struct {
		days int
		want string
	}{
		{0, "e"}, {1, "e"}, {2, "e c f"}, {4, "e c f"}, {5, "e c f a d"}, {6, "e c f a d"},
		{api.MaxDay - 2, "e c f a d"}, {api.MaxDay - 1, "e c f a d g"}, {api.MaxDay, "e c f a d g b"},
	} {
		if k, e := round.Due(l, x.days); strings.Join(k, " ") != x.want || e != api.OK {
			t.Errorf("%d: %v %d", x.days, k, e)
		}
	}
	for _, days := range []int{-1, api.MaxDay + 1, math.MinInt, math.MaxInt} {
		for _, m := range [][]api.Site{l, nil} {
			if k, e := round.Due(m, days); len(k) != 0 || e != api.ErrArg {
				t.Errorf("%d: %v %d", days, k, e)
			}
		}
	}
	if k, e := round.Due(nil, api.MaxDay); len(k) != 0 || e != api.OK {
		t.Error(k, e)
	}
	if k, e := round.Due(l[:2], 4); len(k) != 0 || e != api.OK {
		t.Error(k, e)
	}
	want := keys(api.MaxSites)
	slices.Reverse(want)
	if k, e := round.Due(manySites(api.MaxSites), api.MaxDay); !slices.Equal(k, want) || e != api.OK {
		t.Error(k, e)
	}
}

// P6.1: Due has the sites that Left says, sorted by Left, then by Key.
func TestDueOfMany(t *testing.T) {
	r := rand.New(rand.NewSource(1))
	for range 300 {
		var l []api.Site
		for _, k := range keys(r.Intn(40)) {
			var slots []int
			for range 1 + r.Intn(3) {
				slots = append(slots, r.Intn(30), 100*r.Intn(4))
			}
			l = append(l, site(k, slots...))
		}
		days := r.Intn(12)
		left, e := round.Left(l)
		if e != api.OK {
			t.Fatal(e)
		}
		var want []string
		for n := range days + 1 {
			for i, s := range l {
				if left[i] == n {
					want = append(want, s.Key)
				}
			}
		}
		if k, e := round.Due(l, days); !slices.Equal(k, want) || e != api.OK {
			t.Fatal(l, days, k, e)
		}
	}
}
