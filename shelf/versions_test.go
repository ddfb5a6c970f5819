package shelf_test

import (
	"math"
	"math/rand"
	"slices"
	"strings"
	"testing"

	"coilrack/api"
	"coilrack/shelf"
)

func version(from int, s string) api.Version { return api.Version{From: from, Layout: layout(s)} }

func stay(slot int, product string, from, to int) api.Stay {
	return api.Stay{Slot: slot, Product: product, From: from, To: to}
}

// manyVersions makes n versions of two slots, from each day on another one.
func manyVersions(n int) []api.Version {
	var l []api.Version
	for i := range n {
		l = append(l, version(i, []string{"a .", "b a"}[i%2]))
	}
	return l
}

// badVersions is lists of versions with their errors.
func badVersions() map[string]struct {
	l    []api.Version
	want api.Errno
} {
	type row = struct {
		l    []api.Version
		want api.Errno
	}
	large := make([]string, 61)
	return map[string]row{
		"too many":                {manyVersions(201), api.ErrLarge},
		"too many, before others": {slices.Repeat([]api.Version{{From: -1}}, 201), api.ErrLarge},
		"from below 0":            {[]api.Version{version(-1, "a")}, api.ErrArg},
		"the least from":          {[]api.Version{version(math.MinInt, "a")}, api.ErrArg},
		"from after all days":     {[]api.Version{version(0, "a"), version(api.MaxDay+1, "a")}, api.ErrArg},
		"the greatest from":       {[]api.Version{version(math.MaxInt, "a")}, api.ErrArg},
		"the same day":            {[]api.Version{version(3, "a"), version(3, "b")}, api.ErrOrder},
		"a day before":            {[]api.Version{version(3, "a"), version(2, "b")}, api.ErrOrder},
		"too many slots":          {[]api.Version{{From: 3, Layout: large}}, api.ErrLarge},
		"too many slots later":    {[]api.Version{version(3, "a"), {From: 4, Layout: large}}, api.ErrLarge},
		"more than the first one": {[]api.Version{version(3, "a"), version(4, "a b")}, api.ErrForm},
		"less than the first one": {[]api.Version{version(3, "a b"), version(4, "a b"), version(5, "a")}, api.ErrForm},
		"not as the first one":    {[]api.Version{version(3, ""), version(4, "a")}, api.ErrForm},
		"no key":                  {[]api.Version{version(3, "a b"), version(4, "a B")}, api.ErrName},
		"a long name":             {[]api.Version{version(3, strings.Repeat("k", 41))}, api.ErrName},
		"day before order":        {[]api.Version{version(3, "a"), version(-1, "a")}, api.ErrArg},
		"order before slots":      {[]api.Version{version(3, "a"), {From: 3, Layout: large}}, api.ErrOrder},
		"how many before names":   {[]api.Version{{From: 3, Layout: slices.Repeat([]string{"?"}, 61)}}, api.ErrLarge},
		"form before names":       {[]api.Version{version(3, "a"), version(4, "? ?")}, api.ErrForm},
		"the first one first":     {[]api.Version{version(3, "?"), version(-1, "a b")}, api.ErrName},
		"the second one first":    {[]api.Version{version(3, "a"), version(3, "a"), version(4, "?")}, api.ErrOrder},
	}
}

// P5.6: what is wrong with versions; At and Stays return it before others, and with it nothing else.
func TestCheckVersions(t *testing.T) {
	for name, x := range badVersions() {
		if e := shelf.CheckVersions(x.l); e != x.want {
			t.Errorf("%s: CheckVersions %d", name, e)
		}
		if y, e := shelf.At(x.l, -1); len(y) != 0 || e != x.want {
			t.Errorf("%s: At %v %d", name, y, e)
		}
		if s, e := shelf.Stays(x.l, -1, -1); len(s) != 0 || e != x.want {
			t.Errorf("%s: Stays %v %d", name, s, e)
		}
	}
	for _, l := range [][]api.Version{
		nil, {}, manyVersions(200), {version(0, ""), version(api.MaxDay, "")}, {{From: api.MaxDay, Layout: make([]string, 60)}},
		{version(3, strings.Repeat("k", 40)+" .")},
	} {
		if e := shelf.CheckVersions(l); e != api.OK {
			t.Errorf("%v: %d", l, e)
		}
	}
}

// P5.6: the layout on a day.
func TestAt(t *testing.T) {
	l := []api.Version{version(3, "a ."), version(8, "a b"), version(9, ". ."), version(api.MaxDay, "c c")}
	for day, want := range map[int]string{3: "a .", 4: "a .", 7: "a .", 8: "a b", 9: ". .", 10: ". .", api.MaxDay - 1: ". .", api.MaxDay: "c c"} {
		if y, e := shelf.At(l, day); !slices.Equal(y, layout(want)) || e != api.OK {
			t.Errorf("%d: %v %d", day, y, e)
		}
	}
	for day, want := range map[int]api.Errno{
		0: api.ErrNone, 2: api.ErrNone, -1: api.ErrArg, math.MinInt: api.ErrArg, api.MaxDay + 1: api.ErrArg, math.MaxInt: api.ErrArg,
	} {
		if y, e := shelf.At(l, day); len(y) != 0 || e != want {
			t.Errorf("%d: %v %d", day, y, e)
		}
	}
	if y, e := shelf.At(nil, 0); len(y) != 0 || e != api.ErrNone {
		t.Error(y, e)
	}
	if y, e := shelf.At([]api.Version{version(0, "")}, 5); len(y) != 0 || e != api.OK {
		t.Error(y, e)
	}
}

// P5.6: how long products stay.
func TestStays(t *testing.T) {
	l := []api.Version{version(3, "a . c"), version(8, "a b c"), version(9, "a b ."), version(12, "b b c"), version(20, "a . c")}
	last := api.MaxDay + 1
	for _, x := range []struct {
		from, to int
		want     []api.Stay
	}{
		{0, 0, nil}, {0, 3, nil}, {5, 5, nil}, {last, last, nil},
		{0, 4, []api.Stay{stay(0, "a", 3, 4), stay(2, "c", 3, 4)}},
		{0, 10, []api.Stay{stay(0, "a", 3, 10), stay(1, "b", 8, 10), stay(2, "c", 3, 9)}},
		{5, 7, []api.Stay{stay(0, "a", 5, 7), stay(2, "c", 5, 7)}},
		{8, 9, []api.Stay{stay(0, "a", 8, 9), stay(1, "b", 8, 9), stay(2, "c", 8, 9)}},
		{9, 12, []api.Stay{stay(0, "a", 9, 12), stay(1, "b", 9, 12)}},
		{12, 20, []api.Stay{stay(0, "b", 12, 20), stay(1, "b", 12, 20), stay(2, "c", 12, 20)}},
		{0, last, []api.Stay{
			stay(0, "a", 3, 12), stay(0, "b", 12, 20), stay(0, "a", 20, last), stay(1, "b", 8, 20), stay(2, "c", 3, 9), stay(2, "c", 12, last),
		}},
		{api.MaxDay, last, []api.Stay{stay(0, "a", api.MaxDay, last), stay(2, "c", api.MaxDay, last)}},
	} {
		if s, e := shelf.Stays(l, x.from, x.to); !slices.Equal(s, x.want) || e != api.OK {
			t.Errorf("%d %d: %v %d", x.from, x.to, s, e)
		}
	}
	for _, w := range [][2]int{{-1, 5}, {6, 5}, {0, last + 1}, {0, -1}, {-2, -1}, {math.MinInt, 5}, {0, math.MaxInt}, {math.MaxInt, math.MaxInt}, {math.MaxInt, math.MinInt}, {last + 1, last + 1}} {
		for _, l := range [][]api.Version{l, nil} {
			if s, e := shelf.Stays(l, w[0], w[1]); len(s) != 0 || e != api.ErrArg {
				t.Errorf("%v: %v %d", w, s, e)
			}
		}
	}
	if s, e := shelf.Stays(nil, 0, 10); len(s) != 0 || e != api.OK {
		t.Error(s, e)
	}
	if s, e := shelf.Stays([]api.Version{version(0, ""), version(1, "")}, 0, 10); len(s) != 0 || e != api.OK {
		t.Error(s, e)
	}
	two := []api.Version{version(0, "a a"), version(5, "a .")} // one product in two slots
	if s, e := shelf.Stays(two, 0, 5); !slices.Equal(s, []api.Stay{stay(0, "a", 0, 5), stay(1, "a", 0, 5)}) || e != api.OK {
		t.Error(s, e)
	}
}

// P5.6: Stays against the layouts of all days.
func TestStaysOfSome(t *testing.T) {
	r := rand.New(rand.NewSource(9))
	for range 1_000 {
		var l []api.Version
		slots := r.Intn(3)
		for from := r.Intn(4); len(l) < 6; from += 1 + r.Intn(4) {
			l = append(l, api.Version{From: from, Layout: someLayout(r, example(), slots)})
		}
		l = l[:r.Intn(7)]
		from := r.Intn(12)
		to := from + r.Intn(20)
		var want []api.Stay
		for slot := range slots {
			before := ""
			for day := from; day < to; day++ {
				product := ""
				if x, e := shelf.At(l, day); e == api.OK {
					product = x[slot]
				}
				switch {
				case product != "" && product == before:
					want[len(want)-1].To++
				case product != "":
					want = append(want, stay(slot, product, day, day+1))
				}
				before = product
			}
		}
		if s, e := shelf.Stays(l, from, to); !slices.Equal(s, want) || e != api.OK {
			t.Fatalf("%v %d %d: %v %d, not %v", l, from, to, s, e, want)
		}
	}
}
