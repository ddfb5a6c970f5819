package round_test

import (
	"math"
	"math/rand"
	"slices"
	"testing"

	"coilrack/api"
	"coilrack/round"
)

// square is stops at the corners of a square and, at last, in its middle.
func square() []api.Stop {
	return []api.Stop{open("nw", 0, 10), open("se", 10, 0), open("ne", 10, 10), open("sw", 0, 0), open("mid", 5, 5)}
}

// drives returns the Way of a route, and whether it can be driven.
func drives(t *testing.T, home api.Spot, l []api.Stop, start int, order []int) (int, bool) {
	t.Helper()
	d, e := round.Drive(home, l, start, order)
	if e != api.OK && e != api.ErrRule {
		t.Fatal(home, l, start, order, e)
	}
	return d.Way, e == api.OK
}

// P6.2: the shortest route of all stops.
func TestBest(t *testing.T) {
	for name, x := range map[string]struct {
		home  api.Spot
		l     []api.Stop
		start int
		want  []int
		way   int
	}{
		"the example":               {spot(0, 0), example(), 0, []int{1, 0}, 20},
		"the example, later":        {spot(0, 0), example(), 2, []int{1, 0}, 20},
		"no stops":                  {spot(0, 0), nil, 0, nil, 0},
		"no stops, late":            {spot(9, 9), nil, api.DayLong, nil, 0},
		"one":                       {spot(1, 2), []api.Stop{open("a", 4, 6)}, 0, []int{0}, 14},
		"one at the last minute":    {spot(1, 2), []api.Stop{stop("a", 4, 6, 7, 7)}, 0, []int{0}, 14},
		"the least of several":      {spot(0, 0), square()[:3], 0, []int{0, 2, 1}, 40},
		"all on one spot":           {spot(0, 0), []api.Stop{open("c", 1, 1), open("b", 1, 1), open("a", 1, 1)}, 0, []int{0, 1, 2}, 4},
		"all at home":               {spot(1, 1), []api.Stop{open("c", 1, 1), open("b", 1, 1)}, 0, []int{0, 1}, 0},
		"a window against the list": {spot(1, 1), []api.Stop{stop("c", 1, 1, 5, 9), stop("b", 1, 1, 0, 3)}, 0, []int{1, 0}, 0},
		"a longer one, as first":    {spot(0, 0), []api.Stop{open("a", 1, 0), stop("b", -9, 0, 0, 9), open("c", 2, 0)}, 0, []int{1, 0, 2}, 22},
		"waiting is no driving":     {spot(0, 0), []api.Stop{stop("a", 1, 0, 900, 950), open("b", 2, 0)}, 0, []int{0, 1}, 4},
		"long is no driving":        {spot(0, 0), []api.Stop{long(open("a", 1, 0), 900), open("b", 2, 0)}, 0, []int{0, 1}, 4},
		"too long to be before":     {spot(0, 0), []api.Stop{long(open("a", 1, 0), 900), stop("b", 2, 0, 0, 901)}, 0, []int{1, 0}, 4},
	} {
		if o, n, e := round.Best(x.home, x.l, x.start); !slices.Equal(o, x.want) || n != x.way || e != api.OK {
			t.Errorf("%s: %v %d %d", name, o, n, e)
		}
	}
}

// P6.2: when there is no best route.
func TestNoBest(t *testing.T) {
	for name, x := range map[string]struct {
		l     []api.Stop
		start int
		want  api.Errno
	}{
		"too many":               {manyStops(9), 0, api.ErrLarge},
		"as many as stops":       {manyStops(api.MaxStops), 0, api.ErrLarge},
		"too many, none in time": {manyStops(9), api.DayLong, api.ErrLarge},
		"one too late":           {[]api.Stop{stop("a", 3, 0, 0, 2)}, 0, api.ErrNone},
		"one of two too late":    {[]api.Stop{open("b", 0, 0), stop("a", 3, 0, 0, 2)}, 0, api.ErrNone},
		"start too late":         {example(), 3, api.ErrNone},
		"two at once":            {[]api.Stop{long(stop("a", 0, 0, 0, 4), 5), long(stop("b", 0, 0, 0, 4), 5)}, 0, api.ErrNone},
		"the last minute":        {[]api.Stop{open("a", 1, 0)}, api.DayLong, api.ErrNone},
	} {
		if o, n, e := round.Best(spot(0, 0), x.l, x.start); len(o) != 0 || n != 0 || e != x.want {
			t.Errorf("%s: %v %d %d", name, o, n, e)
		}
	}
}

// eachOrder calls f with all orders of n numbers, from the least list on.
func eachOrder(n int, f func(order []int)) {
	var add func(order []int)
	add = func(order []int) {
		if len(order) == n {
			f(order)
			return
		}
		for i := range n {
			if !slices.Contains(order, i) {
				add(append(order[:len(order):len(order)], i))
			}
		}
	}
	add(nil)
}

// P6.2: Best against all routes.
func TestBestOfAll(t *testing.T) {
	r := rand.New(rand.NewSource(3))
	found, none := 0, 0
	for range 1_500 {
		l, home, start := someStops(r, 6), spot(r.Intn(5)-2, r.Intn(5)-2), r.Intn(8)
		var want []int
		way, wantError := 0, api.ErrNone
		eachOrder(len(l), func(order []int) {
			if n, ok := drives(t, home, l, start, order); ok && (wantError != api.OK || n < way) {
				want, way, wantError = order, n, api.OK
			}
		})
		o, n, e := round.Best(home, l, start)
		if !slices.Equal(o, want) || n != way || e != wantError {
			t.Fatalf("%v %v %d: %v %d %d, not %v %d", home, l, start, o, n, e, want, way)
		}
		switch {
		case e != api.OK:
			none++
		case len(l) > 3:
			found++
		}
	}
	if found < 200 || none < 100 {
		t.Error(found, none)
	}
}

// P6.2: as many stops as there can be.
func TestLargestBest(t *testing.T) {
	var line, ring []api.Stop
	for i, k := range keys(api.MaxExact) {
		line = append(line, long(stop(k, 2*i, 0, 0, 35-3*i), 1)) // all are in time only from the last one on
		ring = append(ring, open(k, 3*i%8, 5*i%8))
	}
	if o, n, e := round.Best(spot(0, 0), line, 0); !slices.Equal(o, []int{7, 6, 5, 4, 3, 2, 1, 0}) || n != 28 || e != api.OK {
		t.Error(o, n, e)
	}
	o, n, e := round.Best(spot(3, 3), ring, 0)
	if e != api.OK {
		t.Fatal(e)
	}
	least, want := math.MaxInt, []int(nil)
	eachOrder(len(ring), func(order []int) {
		if way, ok := walkWay(spot(3, 3), ring, order); ok && way < least {
			least, want = way, order
		}
	})
	if !slices.Equal(o, want) || n != least {
		t.Error(o, n, want, least)
	}
}

// walkWay is the minutes between the stops of a route that may begin at any minute.
func walkWay(home api.Spot, l []api.Stop, order []int) (int, bool) {
	way, at := 0, home
	for _, i := range order {
		n, e := round.Far(at, l[i].Spot)
		if e != api.OK {
			return 0, false
		}
		way, at = way+n, l[i].Spot
	}
	n, e := round.Far(at, home)
	return way + n, e == api.OK
}

// P6.2: always to the nearest stop.
func TestNearest(t *testing.T) {
	for name, x := range map[string]struct {
		home  api.Spot
		l     []api.Stop
		start int
		want  []int
	}{
		"the example":                {spot(0, 0), example(), 0, []int{0}},
		"no stops":                   {spot(0, 0), nil, 0, nil},
		"one":                        {spot(0, 0), []api.Stop{open("a", 4, 6)}, 0, []int{0}},
		"one too late":               {spot(0, 0), []api.Stop{stop("a", 4, 6, 0, 9)}, 0, nil},
		"one just in time":           {spot(0, 0), []api.Stop{stop("a", 4, 6, 0, 10)}, 0, []int{0}},
		"one too late, others not":   {spot(0, 0), []api.Stop{open("c", 1, 0), stop("a", 4, 6, 0, 9), open("b", 9, 9)}, 0, []int{0, 2}},
		"the first one of several":   {spot(5, 5), square()[:4], 0, []int{0, 2, 1, 3}},
		"the nearest, not the first": {spot(4, 4), square(), 0, []int{4, 0, 2, 1, 3}},
		"nearest from there":         {spot(0, 0), []api.Stop{open("a", -3, 0), open("b", 2, 0), open("c", 4, 0)}, 0, []int{1, 2, 0}},
		"on the same spot":           {spot(0, 0), []api.Stop{open("a", 1, 0), open("b", 2, 0), open("c", 1, 0)}, 0, []int{0, 2, 1}},
		"where it must wait":         {spot(0, 0), []api.Stop{open("a", 2, 0), stop("b", 1, 0, 50, 60)}, 0, []int{1, 0}},
		"as it must wait, too late":  {spot(0, 0), []api.Stop{stop("a", 2, 0, 0, 40), stop("b", 1, 0, 50, 60)}, 0, []int{1}},
		"long, then too late":        {spot(0, 0), []api.Stop{stop("a", 2, 0, 0, 10), long(open("b", 1, 0), 10)}, 0, []int{1}},
		"none in time":               {spot(100, 100), manyStops(20), api.DayLong, nil},
	} {
		if o, e := round.Nearest(x.home, x.l, x.start); !slices.Equal(o, x.want) || e != api.OK {
			t.Errorf("%s: %v %d", name, o, e)
		}
	}
}

// P6.2: Nearest step by step.
func TestNearestOfMany(t *testing.T) {
	r := rand.New(rand.NewSource(4))
	for range 1_500 {
		l, home, start := someStops(r, 9), spot(r.Intn(5)-2, r.Intn(5)-2), r.Intn(20)
		var want []int
		for at := home; ; at = l[want[len(want)-1]].Spot {
			next, least := -1, math.MaxInt
			for i, s := range l {
				if slices.Contains(want, i) {
					continue
				}
				n, e := round.Far(at, s.Spot)
				if _, ok := drives(t, home, l, start, append(slices.Clone(want), i)); ok && e == api.OK && n < least {
					next, least = i, n
				}
			}
			if next < 0 {
				break
			}
			want = append(want, next)
		}
		if o, e := round.Nearest(home, l, start); !slices.Equal(o, want) || e != api.OK {
			t.Fatalf("%v %v %d: %v %d, not %v", home, l, start, o, e, want)
		}
	}
}

// P6.2: a further stop.
func TestInsert(t *testing.T) {
	line := []api.Stop{open("a", 2, 0), open("b", 4, 0), open("c", 6, 0), open("d", 4, 3), stop("e", 1, 0, 0, 1), stop("f", 5, 0, 7, 90), stop("g", 6, 0, 0, 6)}
	for name, x := range map[string]struct {
		order []int
		stop  int
		want  []int
	}{
		"into none":                      {nil, 2, []int{2}},
		"at the end":                     {[]int{3}, 4, []int{4, 3}},
		"at the first place of several":  {[]int{0, 2}, 1, []int{0, 1, 2}},
		"on the way there, or back":      {[]int{2}, 0, []int{0, 2}},
		"before, though it is beyond":    {[]int{0}, 2, []int{2, 0}},
		"around":                         {[]int{0, 2}, 3, []int{0, 3, 2}},
		"only first":                     {[]int{2, 0}, 4, []int{4, 2, 0}},
		"only before a stop that is due": {[]int{6}, 1, []int{1, 6}},
		"where it waits on the way":      {[]int{0, 2}, 5, []int{0, 5, 2}},
		"after, as it would wait before": {[]int{6}, 5, []int{6, 5}},
	} {
		if o, e := round.Insert(spot(0, 0), line, 0, x.order, x.stop); !slices.Equal(o, x.want) || e != api.OK {
			t.Errorf("%s: %v %d", name, o, e)
		}
	}
	if o, e := round.Insert(spot(0, 0), example(), 0, []int{0}, 1); !slices.Equal(o, []int{1, 0}) || e != api.OK {
		t.Error(o, e)
	}
}

// P6.2: no further stop.
func TestNoInsert(t *testing.T) {
	l := []api.Stop{open("a", 2, 0), long(stop("b", 4, 0, 0, 4), 9), stop("c", 6, 0, 0, 6), open("d", 0, 1)}
	for name, x := range map[string]struct {
		start int
		order []int
		stop  int
		want  api.Errno
	}{
		"no such stop in the route":    {0, []int{4}, 0, api.ErrArg},
		"a stop below 0 in the route":  {0, []int{0, -1}, 1, api.ErrArg},
		"twice in the route":           {0, []int{0, 0}, 1, api.ErrTwice},
		"a route that is late":         {5, []int{1}, 0, api.ErrRule},
		"no such stop":                 {0, []int{0}, 4, api.ErrArg},
		"a stop below 0":               {0, nil, -1, api.ErrArg},
		"the least stop":               {0, nil, math.MinInt, api.ErrArg},
		"the greatest stop":            {0, nil, math.MaxInt, api.ErrArg},
		"in the route":                 {0, []int{0, 3}, 3, api.ErrTwice},
		"in the route, first":          {0, []int{0, 3}, 0, api.ErrTwice},
		"too late":                     {5, nil, 1, api.ErrNone},
		"others would be too late":     {0, []int{1}, 2, api.ErrNone},
		"too late anywhere":            {5, []int{0, 3}, 1, api.ErrNone},
		"the route before the stop":    {0, []int{0, 0}, 4, api.ErrTwice},
		"the rule before the stop":     {5, []int{1}, 4, api.ErrRule},
		"the rule before twice":        {5, []int{1}, 1, api.ErrRule},
		"the rule before none":         {5, []int{1}, 2, api.ErrRule},
		"twice before none":            {4, []int{3}, 3, api.ErrTwice},
		"late is not mended by a stop": {7, []int{2}, 0, api.ErrRule},
	} {
		if o, e := round.Insert(spot(0, 0), l, x.start, x.order, x.stop); len(o) != 0 || e != x.want {
			t.Errorf("%s: %v %d", name, o, e)
		}
	}
	if o, e := round.Insert(spot(0, 0), nil, 0, nil, 0); len(o) != 0 || e != api.ErrArg {
		t.Error(o, e)
	}
}

// P6.2: Insert against all places.
func TestInsertEverywhere(t *testing.T) {
	r := rand.New(rand.NewSource(5))
	found, none := 0, 0
	for range 8_000 {
		l, home, start := someStops(r, 8), spot(r.Intn(5)-2, r.Intn(5)-2), r.Intn(12)
		p := r.Perm(len(l))
		if len(p) == 0 {
			continue
		}
		cut := 1 + r.Intn(len(p))
		order, further := p[:cut-1], p[cut-1]
		if _, ok := drives(t, home, l, start, order); !ok {
			continue
		}
		var want []int
		way, wantError := 0, api.ErrNone
		for at := range len(order) + 1 {
			longer := slices.Insert(slices.Clone(order), at, further)
			if n, ok := drives(t, home, l, start, longer); ok && (wantError != api.OK || n < way) {
				want, way, wantError = longer, n, api.OK
			}
		}
		o, e := round.Insert(home, l, start, order, further)
		if !slices.Equal(o, want) || e != wantError {
			t.Fatalf("%v %v %d %v %d: %v %d, not %v", home, l, start, order, further, o, e, want)
		}
		switch {
		case e != api.OK:
			none++
		case len(order) > 2:
			found++
		}
	}
	if found < 500 || none < 200 {
		t.Error(found, none)
	}
}

// P6.2: parts of a route are turned around.
func TestImprove(t *testing.T) {
	l := square()
	for name, x := range map[string]struct {
		order  []int
		rounds int
		want   []int
		way    int
	}{
		"no rounds":          {[]int{0, 1, 2}, 0, []int{0, 1, 2}, 60},
		"a round":            {[]int{0, 1, 2}, 1, []int{0, 2, 1}, 40},
		"more than it needs": {[]int{0, 1, 2}, 100, []int{0, 2, 1}, 40},
		"nothing is better":  {[]int{1, 2, 0}, 5, []int{1, 2, 0}, 40},
		"no stops":           {nil, 5, nil, 0},
		"one":                {[]int{2}, 5, []int{2}, 40},
		"two are as long":    {[]int{2, 0}, 5, []int{2, 0}, 40},
		"some of the stops":  {[]int{4, 1, 2, 3}, 0, []int{4, 1, 2, 3}, 50},
	} {
		if o, n, e := round.Improve(spot(0, 0), l, 0, x.order, x.rounds); !slices.Equal(o, x.want) || n != x.way || e != api.OK {
			t.Errorf("%s: %v %d %d", name, o, n, e)
		}
	}
	// At first nobody is at a in time after b.
	due := []api.Stop{stop("a", 9, 0, 0, 9), long(open("b", 1, 0), 1), stop("c", 8, 0, 0, 26)}
	if o, n, e := round.Improve(spot(0, 0), due, 0, []int{0, 1, 2}, 9); !slices.Equal(o, []int{0, 2, 1}) || n != 18 || e != api.OK {
		t.Error(o, n, e)
	}
	due[1].To = 17
	if o, n, e := round.Improve(spot(0, 0), due, 0, []int{0, 1, 2}, 9); !slices.Equal(o, []int{0, 2, 1}) || n != 18 || e != api.OK {
		t.Error(o, n, e)
	}
	due[2] = long(due[2], 1) // and now nobody is at b in time after c
	if o, n, e := round.Improve(spot(0, 0), due, 0, []int{0, 1, 2}, 9); !slices.Equal(o, []int{0, 1, 2}) || n != 32 || e != api.OK {
		t.Error(o, n, e)
	}
}

// P6.2: of several parts the one that begins first, then the one that ends first, is turned around.
func TestImproveFirst(t *testing.T) {
	// From 0 to 3, from 1 to 2 and from 3 to 4 would be as short as from 0 to 1.
	line := []api.Stop{open("a", 3, 0), open("b", 1, 0), open("c", 4, 0), open("d", 0, 0), open("e", 2, 0)}
	if o, n, e := round.Improve(spot(0, 0), line, 0, []int{0, 1, 2, 3, 4}, 1); !slices.Equal(o, []int{1, 0, 2, 3, 4}) || n != 12 || e != api.OK {
		t.Error(o, n, e)
	}
	// From 2 to 3 would be as short as from 1 to 4.
	ring := []api.Stop{open("a", 0, 1), open("b", 1, 0), open("c", 2, 2), open("d", 2, 1), open("e", -1, 2)}
	if o, n, e := round.Improve(spot(0, 0), ring, 0, []int{0, 1, 2, 3, 4}, 1); !slices.Equal(o, []int{0, 4, 3, 2, 1}) || n != 12 || e != api.OK {
		t.Error(o, n, e)
	}
}

// P6.2: errors of Improve.
func TestNoImprove(t *testing.T) {
	l := square()
	l[1].To = 9
	for name, x := range map[string]struct {
		order  []int
		rounds int
		want   api.Errno
	}{
		"no such stop":           {[]int{0, 5}, 1, api.ErrArg},
		"a stop below 0":         {[]int{-1}, 1, api.ErrArg},
		"twice":                  {[]int{0, 2, 0}, 1, api.ErrTwice},
		"too late":               {[]int{2, 1}, 1, api.ErrRule},
		"rounds below 0":         {[]int{0, 2}, -1, api.ErrArg},
		"too many rounds":        {[]int{0, 2}, 101, api.ErrArg},
		"the least rounds":       {nil, math.MinInt, api.ErrArg},
		"the most rounds":        {nil, math.MaxInt, api.ErrArg},
		"twice before rounds":    {[]int{2, 2}, -1, api.ErrTwice},
		"the rule before rounds": {[]int{2, 1}, 101, api.ErrRule},
	} {
		if o, n, e := round.Improve(spot(0, 0), l, 0, x.order, x.rounds); len(o) != 0 || n != 0 || e != x.want {
			t.Errorf("%s: %v %d %d", name, o, n, e)
		}
	}
}

// improved turns parts around as the chapter says.
func improved(t *testing.T, home api.Spot, l []api.Stop, start int, order []int, rounds int) ([]int, int) {
	t.Helper()
	least, ok := drives(t, home, l, start, order)
	if !ok {
		t.Fatal(order)
	}
	for range rounds {
		better := order
		for i := range order {
			for j := i + 1; j < len(order); j++ {
				other := slices.Clone(order)
				for k := i; k <= j; k++ {
					other[k] = order[i+j-k]
				}
				if n, ok := drives(t, home, l, start, other); ok && n < least {
					better, least = other, n
				}
			}
		}
		if slices.Equal(better, order) {
			break
		}
		order = better
	}
	return order, least
}

// P6.2: Improve against all parts.
func TestImproveOfAll(t *testing.T) {
	r := rand.New(rand.NewSource(6))
	changed, more := 0, 0
	for range 12_000 {
		l, home, start := someStops(r, 9), spot(r.Intn(5)-2, r.Intn(5)-2), r.Intn(8)
		order := some(r, len(l), 9)
		before, ok := drives(t, home, l, start, order)
		if !ok || len(order) < 2 {
			continue
		}
		for _, rounds := range []int{0, 1, 2, 100} {
			want, way := improved(t, home, l, start, order, rounds)
			o, n, e := round.Improve(home, l, start, order, rounds)
			if !slices.Equal(o, want) || n != way || e != api.OK || n > before {
				t.Fatalf("%v %v %d %v %d: %v %d %d, not %v %d", home, l, start, order, rounds, o, n, e, want, way)
			}
			if rounds == 1 && n < before {
				changed++
			}
			if rounds == 100 && len(order) > 4 {
				if _, once, _ := round.Improve(home, l, start, order, 1); n < once {
					more++
				}
			}
		}
	}
	if changed < 500 || more < 100 {
		t.Error(changed, more)
	}
}

// P6.2: as many stops as there can be.
func TestLargestImprove(t *testing.T) {
	var l []api.Stop
	var order []int
	for i, k := range keys(api.MaxStops) {
		l = append(l, open(k, 37*i%13, 17*i%11-4))
		order = append(order, i)
	}
	before, _ := walkWay(spot(1, 1), l, order)
	o, n, e := round.Improve(spot(1, 1), l, 0, order, 100)
	if e != api.OK || n >= before {
		t.Fatal(o, n, before, e)
	}
	want, way := improved(t, spot(1, 1), l, 0, order, 100)
	if !slices.Equal(o, want) || n != way {
		t.Error(o, n, want, way)
	}
}

func sameRoutes(a, b [][]int) bool {
	return slices.EqualFunc(a, b, func(x, y []int) bool { return slices.Equal(x, y) })
}

// P6.2: stops are given to cars.
func TestSplit(t *testing.T) {
	shifts := []api.Stop{long(stop("a", 1, 0, 0, 9), 20), long(stop("b", 1, 0, 0, 9), 20), long(stop("c", 1, 0, 0, 9), 20), open("d", 3, 0)}
	sides := []api.Stop{stop("a", 10, 0, 0, 10), stop("b", -10, 0, 0, 10), open("c", -11, 0)}
	onTheWay := []api.Stop{stop("a", -50, 0, 0, 50), stop("b", 1, 0, 0, 1), open("c", -40, 0)}
	for name, x := range map[string]struct {
		l     []api.Stop
		start int
		cars  int
		want  [][]int
	}{
		"the example":              {example(), 0, 2, [][]int{{1, 0}, nil}},
		"no stops":                 {nil, 0, 3, [][]int{nil, nil, nil}},
		"one car":                  {square(), 0, 1, [][]int{{3, 4, 1, 2, 0}}},
		"the first car of several": {[]api.Stop{open("a", 1, 0), open("b", -1, 0), open("c", 0, 0)}, 0, 3, [][]int{{2, 1, 0}, nil, nil}},
		"a shift for each":         {shifts, 0, 3, [][]int{{3, 0}, {1}, {2}}},
		"one goes nowhere":         {shifts, 0, 2, [][]int{{3, 0}, {1}}},
		"none go anywhere":         {shifts[:3], 9, 2, [][]int{nil, nil}},
		"as many cars as can be":   {shifts, 0, 10, [][]int{{3, 0}, {1}, {2}, nil, nil, nil, nil, nil, nil, nil}},
		"one behind":               {shifts, 5, 2, [][]int{{0, 3}, {1}}},
		"the car that is near":     {sides, 0, 3, [][]int{{0}, {1, 2}, nil}},
		"what grows, not what is":  {onTheWay, 0, 2, [][]int{{2, 0}, {1}}},
	} {
		if s, e := round.Split(spot(0, 0), x.l, x.start, x.cars); !sameRoutes(s, x.want) || e != api.OK {
			t.Errorf("%s: %v %d", name, s, e)
		}
	}
	for _, cars := range []int{0, -1, 11, math.MinInt, math.MaxInt} {
		for _, l := range [][]api.Stop{nil, shifts} {
			if s, e := round.Split(spot(0, 0), l, 0, cars); len(s) != 0 || e != api.ErrArg {
				t.Errorf("%d: %v %d", cars, s, e)
			}
		}
	}
}

// P6.2: Split stop by stop.
func TestSplitOfMany(t *testing.T) {
	r := rand.New(rand.NewSource(7))
	nowhere, cars := 0, 0
	for range 1_500 {
		l, home, start := someStops(r, 9), spot(r.Intn(5)-2, r.Intn(5)-2), r.Intn(20)
		want := make([][]int, 1+r.Intn(4))
		for stop := range l {
			at, least := -1, math.MaxInt
			var put []int
			for i, order := range want {
				before, _ := drives(t, home, l, start, order)
				longer, e := round.Insert(home, l, start, order, stop)
				if e != api.OK {
					continue
				}
				if after, ok := drives(t, home, l, start, longer); ok && after-before < least {
					at, least, put = i, after-before, longer
				}
			}
			if at < 0 {
				nowhere++
				continue
			}
			want[at] = put
			cars += at
		}
		if s, e := round.Split(home, l, start, len(want)); !sameRoutes(s, want) || e != api.OK {
			t.Fatalf("%v %v %d: %v %d, not %v", home, l, start, s, e, want)
		}
	}
	if nowhere < 100 || cars < 100 {
		t.Error(nowhere, cars)
	}
}
