package shelf_test

import (
	"math"
	"math/rand"
	"slices"
	"testing"

	"coilrack/api"
	"coilrack/shelf"
)

// P5.2: the counts with the greatest worth.
func TestBest(t *testing.T) {
	twins := []api.Offer{offer("a", "g", 5, 5), offer("b", "h", 5, 5), offer("c", "g", 5, 5)}
	for name, x := range map[string]struct {
		l     []api.Offer
		q     []api.Quota
		slots int
		want  []int
		worth int
	}{
		"the example":               {example(), nil, 3, []int{2, 1}, 15},
		"no slots":                  {example(), nil, 0, []int{0, 0}, 0},
		"all slots":                 {example(), nil, 4, []int{2, 2}, 16},
		"no offers":                 {nil, nil, 0, nil, 0},
		"no offers, a quota":        {nil, []api.Quota{quota("a", 0, 1)}, 0, nil, 0},
		"a great one behind":        {[]api.Offer{offer("a", "g", 3, 3), offer("b", "g", -10, 20)}, nil, 2, []int{0, 2}, 10},
		"a great one too far":       {[]api.Offer{offer("a", "g", 3, 3), offer("b", "g", -10, 20)}, nil, 1, []int{1, 0}, 3},
		"a loss, as all are used":   {[]api.Offer{offer("a", "g", 3, -9), offer("b", "g", -2, -2)}, nil, 3, []int{1, 2}, -1},
		"no loss, as no slots":      {[]api.Offer{offer("a", "g", -3)}, nil, 0, []int{0}, 0},
		"the least of several":      {twins, nil, 3, []int{0, 1, 2}, 15},
		"the least across groups":   {twins, []api.Quota{quota("g", 2, 3)}, 3, []int{0, 1, 2}, 15},
		"the least with fewer of g": {twins, []api.Quota{quota("g", 0, 1)}, 3, []int{0, 2, 1}, 15},
		"the least with more of g":  {twins, []api.Quota{quota("g", 3, 3)}, 4, []int{1, 1, 2}, 20},
		"most of a group":           {example(), []api.Quota{quota("sweet", 0, 1)}, 3, []int{1, 2}, 12},
		"least of a group":          {example(), []api.Quota{quota("salt", 2, 2)}, 2, []int{0, 2}, 7},
		"two quotas":                {mixed(), []api.Quota{quota("drink", 0, 1), quota("sweet", 0, 2)}, 5, []int{0, 1, 2, 2, 0}, 230},
		"a quota of no offer":       {example(), []api.Quota{quota("other", 0, 5)}, 3, []int{2, 1}, 15},
		"one in another's place":    {mixed(), []api.Quota{quota("salty", 0, 0)}, 4, []int{1, 1, 2, 0, 0}, 200},
	} {
		if c, n, e := shelf.Best(x.l, x.q, x.slots); !slices.Equal(c, x.want) || n != x.worth || e != api.OK {
			t.Errorf("%s: %v %d %d", name, c, n, e)
		}
	}
}

// P5.2: when there is no best.
func TestNoBest(t *testing.T) {
	for name, x := range map[string]struct {
		l     []api.Offer
		q     []api.Quota
		slots int
		want  api.Errno
	}{
		"more slots than profits":    {example(), nil, 5, api.ErrNone},
		"all slots":                  {example(), nil, 60, api.ErrNone},
		"no offers":                  {nil, nil, 1, api.ErrNone},
		"quotas that leave too few":  {example(), []api.Quota{quota("salt", 0, 1), quota("sweet", 0, 1)}, 3, api.ErrNone},
		"quotas that need too many":  {example(), []api.Quota{quota("salt", 1, 1), quota("sweet", 1, 1)}, 1, api.ErrNone},
		"more than a group has":      {example(), []api.Quota{quota("salt", 3, 9)}, 3, api.ErrNone},
		"of a group without offers":  {example(), []api.Quota{quota("other", 1, 9)}, 3, api.ErrNone},
		"of a group, without offers": {nil, []api.Quota{quota("other", 1, 9)}, 0, api.ErrNone},
		"slots below 0":              {example(), nil, -1, api.ErrArg},
		"the least slots":            {example(), nil, math.MinInt, api.ErrArg},
		"too many slots":             {example(), nil, 61, api.ErrArg},
		"the most slots":             {example(), nil, math.MaxInt, api.ErrArg},
		"too many slots for none":    {nil, []api.Quota{quota("other", 1, 9)}, 61, api.ErrArg},
	} {
		if c, n, e := shelf.Best(x.l, x.q, x.slots); len(c) != 0 || n != 0 || e != x.want {
			t.Errorf("%s: %v %d %d", name, c, n, e)
		}
	}
}

// eachCounts calls f with all counts of offers, from the least list on.
func eachCounts(l []api.Offer, f func(counts []int)) {
	var add func(counts []int)
	add = func(counts []int) {
		if len(counts) == len(l) {
			f(counts)
			return
		}
		for n := range len(l[len(counts)].Profits) + 1 {
			add(append(counts[:len(counts):len(counts)], n))
		}
	}
	add(nil)
}

func sum(l []int) int {
	n := 0
	for _, x := range l {
		n += x
	}
	return n
}

// P5.2: Best against all counts.
func TestBestOfAll(t *testing.T) {
	r := rand.New(rand.NewSource(5))
	found := 0
	for range 1_500 {
		l := someOffers(r, 5)
		var q []api.Quota
		for _, group := range []string{"other", "salt", "sweet", "x"} {
			if r.Intn(3) == 0 {
				least := r.Intn(3) * r.Intn(2)
				q = append(q, quota(group, least, least+r.Intn(4)))
			}
		}
		slots := r.Intn(9)
		var want []int
		worth := 0
		wantError := api.ErrNone
		eachCounts(l, func(counts []int) {
			fits, e := shelf.Fits(l, q, counts)
			n, e2 := shelf.Worth(l, counts)
			if e != api.OK || e2 != api.OK {
				t.Fatal(l, q, counts, e, e2)
			}
			if sum(counts) == slots && fits && (wantError != api.OK || n > worth) {
				want, worth, wantError = counts, n, api.OK
			}
		})
		c, n, e := shelf.Best(l, q, slots)
		if !slices.Equal(c, want) || n != worth || e != wantError {
			t.Fatalf("%v %v %d: %v %d %d, not %v %d", l, q, slots, c, n, e, want, worth)
		}
		if b, e2 := shelf.Bound(l, slots); e == api.OK && len(q) == 0 && n > b || e2 != api.OK {
			t.Fatalf("%v %d: %d is above %d", l, slots, n, b)
		}
		if e == api.OK && len(l) > 2 {
			found++
		}
	}
	if found < 300 {
		t.Error("only", found)
	}
}

// P5.2: as many offers, groups, quotas and slots as there can be.
func TestLargestBest(t *testing.T) {
	var q []api.Quota
	for _, k := range keys(10) {
		q = append(q, quota(k, 1, 9))
	}
	l := manyOffers(api.MaxOffers)
	for range 20 {
		c, n, e := shelf.Best(l, q, api.MaxRackSlots)
		if w, e2 := shelf.Worth(l, c); w != n || sum(c) != api.MaxRackSlots || e != api.OK || e2 != api.OK {
			t.Fatal(c, n, e, w, e2)
		}
		if ok, e := shelf.Fits(l, q, c); !ok || e != api.OK {
			t.Fatal(c, e)
		}
	}
	var same []api.Offer
	for _, o := range l {
		same = append(same, offer(o.Key, o.Group, slices.Repeat([]int{1_000_000}, 10)...))
	}
	want := append(make([]int, 24), 10, 10, 10, 10, 10, 10)
	if c, n, e := shelf.Best(same, nil, api.MaxRackSlots); !slices.Equal(c, want) || n != 60_000_000 || e != api.OK {
		t.Error(c, n, e)
	}
}
