package round_test

import (
	"math"
	"math/rand"
	"slices"
	"strings"
	"testing"

	"coilrack/api"
	"coilrack/round"
)

func spot(x, y int) api.Spot { return api.Spot{X: x, Y: y} }

// stop makes a stop with a window, and no Long.
func stop(key string, x, y, from, to int) api.Stop {
	return api.Stop{Key: key, Spot: spot(x, y), From: from, To: to}
}

// long makes a stop longer.
func long(s api.Stop, minutes int) api.Stop {
	s.Long = minutes
	return s
}

// open makes a stop that may begin at any minute.
func open(key string, x, y int) api.Stop { return stop(key, x, y, 0, api.DayLong) }

// example is the stops of the chapter's example; the nearer one takes so long that nobody is at the farther one in time after it.
func example() []api.Stop {
	return []api.Stop{long(open("near", 5, 0), 4), long(stop("far", 10, 0, 0, 12), 3)}
}

// manyStops makes n stops, some on the same spot, that may begin at any minute.
func manyStops(n int) []api.Stop {
	var l []api.Stop
	for i, k := range keys(n) {
		l = append(l, open(k, 7*i*i%11-5, 5*i%13-6))
	}
	return l
}

// badStops is lists of stops with their errors.
func badStops() map[string]struct {
	l    []api.Stop
	want api.Errno
} {
	type row = struct {
		l    []api.Stop
		want api.Errno
	}
	good := open("a", 1, 1)
	return map[string]row{
		"too many":                    {manyStops(api.MaxStops + 1), api.ErrLarge},
		"too many, before others":     {make([]api.Stop, api.MaxStops+1), api.ErrLarge},
		"no key":                      {[]api.Stop{open("", 1, 1)}, api.ErrName},
		"a key that is none":          {[]api.Stop{good, open("B", 1, 1)}, api.ErrName},
		"a long key":                  {[]api.Stop{open(strings.Repeat("k", api.MaxName+1), 1, 1)}, api.ErrName},
		"the same key":                {[]api.Stop{good, open("a", 2, 2)}, api.ErrTwice},
		"the same key, later":         {[]api.Stop{open("b", 1, 1), good, open("b", 2, 2)}, api.ErrTwice},
		"the same keys at the end":    {append(manyStops(59), open("k0058", 0, 0)), api.ErrTwice},
		"x too small":                 {[]api.Stop{open("a", -10_001, 0)}, api.ErrArg},
		"x too great":                 {[]api.Stop{good, open("b", 10_001, 0)}, api.ErrArg},
		"y too small":                 {[]api.Stop{open("a", 0, -10_001)}, api.ErrArg},
		"y too great":                 {[]api.Stop{open("a", 0, 10_001)}, api.ErrArg},
		"from too small":              {[]api.Stop{stop("a", 0, 0, -1, 5)}, api.ErrArg},
		"from after to":               {[]api.Stop{stop("a", 0, 0, 6, 5)}, api.ErrArg},
		"from after to, both small":   {[]api.Stop{stop("a", 0, 0, 0, -1)}, api.ErrArg},
		"both too small":              {[]api.Stop{stop("a", 0, 0, -2, -1)}, api.ErrArg},
		"to too great":                {[]api.Stop{good, stop("b", 0, 0, 0, api.DayLong+1)}, api.ErrArg},
		"both too great":              {[]api.Stop{stop("a", 0, 0, api.DayLong+1, api.DayLong+1)}, api.ErrArg},
		"the least from":              {[]api.Stop{stop("a", 0, 0, math.MinInt, 5)}, api.ErrArg},
		"the greatest to":             {[]api.Stop{stop("a", 0, 0, 0, math.MaxInt)}, api.ErrArg},
		"long too small":              {[]api.Stop{long(good, -1)}, api.ErrArg},
		"long too great":              {[]api.Stop{long(good, api.DayLong+1)}, api.ErrArg},
		"the least long":              {[]api.Stop{long(good, math.MinInt)}, api.ErrArg},
		"the greatest long":           {[]api.Stop{long(good, math.MaxInt)}, api.ErrArg},
		"key before twice":            {[]api.Stop{open("A", 1, 1), open("A", 1, 1)}, api.ErrName},
		"key before spot":             {[]api.Stop{open("", 10_001, 1)}, api.ErrName},
		"key before window":           {[]api.Stop{stop("", 0, 0, 6, 5)}, api.ErrName},
		"twice before spot":           {[]api.Stop{good, open("a", 10_001, 1)}, api.ErrTwice},
		"twice before window":         {[]api.Stop{good, stop("a", 0, 0, 6, 5)}, api.ErrTwice},
		"the first one first":         {[]api.Stop{stop("a", 0, 0, 6, 5), open("", 0, 0)}, api.ErrArg},
		"all of the first one first":  {[]api.Stop{long(good, -1), open("a", 0, 0)}, api.ErrArg},
		"all of the second one first": {[]api.Stop{good, open("b", 0, 10_001), open("b", 0, 0)}, api.ErrArg},
	}
}

// P6.2: what is wrong with stops, of all functions that take them, before home, start and their own errors.
func TestBadStops(t *testing.T) {
	away := spot(10_001, 0)
	for name, x := range badStops() {
		if e := round.CheckStops(x.l); e != x.want {
			t.Errorf("%s: %d", name, e)
		}
		for f, e := range zeroResults(t, away, x.l, -1, []int{-1}, -1) {
			if e != x.want {
				t.Errorf("%s: %s %d", name, f, e)
			}
		}
		if s, e := round.Print(x.l, api.Tour{Begins: []int{-1}}); s != "" || e != x.want {
			t.Errorf("%s: Print %q %d", name, s, e)
		}
	}
}

// zeroResults returns the error of each function with routes. One number is each function's own: the stop, the rounds or the cars. With an error all other results must be zero values.
func zeroResults(t *testing.T, home api.Spot, l []api.Stop, start int, order []int, own int) map[string]api.Errno {
	t.Helper()
	tour, drive := round.Drive(home, l, start, order)
	best, way, shortest := round.Best(home, l, start)
	near, nearest := round.Nearest(home, l, start)
	longer, insert := round.Insert(home, l, start, order, own)
	better, less, improve := round.Improve(home, l, start, order, own)
	routes, split := round.Split(home, l, start, own)
	for name, zero := range map[string]bool{
		"Drive":   drive == api.OK || len(tour.Begins) == 0 && tour.End == 0 && tour.Way == 0 && tour.Waits == 0,
		"Best":    shortest == api.OK || len(best) == 0 && way == 0,
		"Nearest": nearest == api.OK || len(near) == 0,
		"Insert":  insert == api.OK || len(longer) == 0,
		"Improve": improve == api.OK || len(better) == 0 && less == 0,
		"Split":   split == api.OK || len(routes) == 0,
	} {
		if !zero {
			t.Errorf("%s: results with an error", name)
		}
	}
	return map[string]api.Errno{"Drive": drive, "Best": shortest, "Nearest": nearest, "Insert": insert, "Improve": improve, "Split": split}
}

// P6.2: home and start, of all functions with routes, before their own errors.
func TestHomeAndStart(t *testing.T) {
	for name, x := range map[string]struct {
		home  api.Spot
		start int
	}{
		"x too small":        {spot(-10_001, 0), 0},
		"x too great":        {spot(10_001, 0), 0},
		"y too small":        {spot(0, -10_001), 0},
		"y too great":        {spot(0, 10_001), 0},
		"the least x":        {spot(math.MinInt, 0), 0},
		"the greatest y":     {spot(0, math.MaxInt), 0},
		"start too small":    {spot(0, 0), -1},
		"start too great":    {spot(0, 0), api.DayLong + 1},
		"the least start":    {spot(0, 0), math.MinInt},
		"the greatest start": {spot(0, 0), math.MaxInt},
	} {
		// The own errors here would be: Drive's, Insert's and Improve's ErrTwice, and ErrLarge of Best.
		for f, e := range zeroResults(t, x.home, manyStops(9), x.start, []int{3, 3}, 1) {
			if e != api.ErrArg {
				t.Errorf("%s: %s %d", name, f, e)
			}
		}
		for f, e := range zeroResults(t, x.home, nil, x.start, nil, 1) {
			if e != api.ErrArg {
				t.Errorf("%s: %s without stops %d", name, f, e)
			}
		}
	}
	for _, x := range []int{-10_000, 10_000} {
		for _, y := range []int{-10_000, 10_000} {
			for _, start := range []int{0, api.DayLong} {
				l := []api.Stop{open("a", x, y)}
				for f, e := range zeroResults(t, spot(x, y), l, start, nil, 0) {
					if e != api.OK && f != "Split" {
						t.Errorf("%d %d %d: %s %d", x, y, start, f, e)
					}
				}
				if r, e := round.Split(spot(x, y), l, start, 1); len(r) != 1 || e != api.OK {
					t.Errorf("%d %d %d: Split %v %d", x, y, start, r, e)
				}
			}
		}
	}
}

// P6.2: stops that are right.
func TestGoodStops(t *testing.T) {
	for _, l := range [][]api.Stop{
		nil, {}, example(), manyStops(api.MaxStops),
		{long(stop(strings.Repeat("k", api.MaxName), -10_000, -10_000, 0, 0), api.DayLong)},
		{long(stop("b", 10_000, 10_000, api.DayLong, api.DayLong), 0), open("a", 10_000, 10_000)},
		{stop("a", 0, 0, 5, 5), stop("aa", 0, 0, 0, 1), stop("a-", 0, 0, 0, 1)},
	} {
		if e := round.CheckStops(l); e != api.OK {
			t.Errorf("%v: %d", l, e)
		}
	}
}

// P6.2: how many minutes lie between two spots.
func TestFar(t *testing.T) {
	for _, x := range []struct {
		a, b api.Spot
		want int
	}{
		{spot(0, 0), spot(0, 0), 0}, {spot(3, -4), spot(3, -4), 0}, {spot(0, 0), spot(5, 0), 5}, {spot(0, 0), spot(0, 5), 5},
		{spot(1, 2), spot(4, 6), 7}, {spot(1, 6), spot(4, 2), 7}, {spot(-1, 2), spot(1, -2), 6}, {spot(-5, -5), spot(-7, -4), 3},
		{spot(-10_000, -10_000), spot(10_000, 10_000), 40_000}, {spot(-10_000, 10_000), spot(10_000, -10_000), 40_000},
	} {
		for _, f := range []func() (int, api.Errno){
			func() (int, api.Errno) { return round.Far(x.a, x.b) },
			func() (int, api.Errno) { return round.Far(x.b, x.a) },
		} {
			if n, e := f(); n != x.want || e != api.OK {
				t.Errorf("%v %v: %d %d", x.a, x.b, n, e)
			}
		}
	}
	for _, n := range []int{-10_001, 10_001, math.MinInt, math.MaxInt} {
		for _, bad := range []api.Spot{spot(n, 0), spot(0, n), spot(n, n)} {
			for _, other := range []api.Spot{spot(0, 0), bad} {
				if n, e := round.Far(bad, other); n != 0 || e != api.ErrArg {
					t.Errorf("%v %v: %d %d", bad, other, n, e)
				}
				if n, e := round.Far(other, bad); n != 0 || e != api.ErrArg {
					t.Errorf("%v %v: %d %d", other, bad, n, e)
				}
			}
		}
	}
}

func sameTour(a, b api.Tour) bool {
	return slices.Equal(a.Begins, b.Begins) && a.End == b.End && a.Way == b.Way && a.Waits == b.Waits
}

// P6.2: a route is driven.
func TestDrive(t *testing.T) {
	line := []api.Stop{long(stop("a", 5, 0, 10, 24), 4), long(stop("b", 0, 6, 0, 30), 7), long(stop("c", -2, 0, 40, 50), 2), open("d", 0, 0)}
	late := []api.Stop{long(stop("a", 1, 1, 0, api.DayLong), api.DayLong)}
	for name, x := range map[string]struct {
		home  api.Spot
		l     []api.Stop
		start int
		order []int
		want  api.Tour
	}{
		"the example":           {spot(0, 0), example(), 0, []int{1, 0}, api.Tour{Begins: []int{10, 18}, End: 27, Way: 20}},
		"at to":                 {spot(0, 0), example(), 2, []int{1}, api.Tour{Begins: []int{12}, End: 25, Way: 20}},
		"no stops":              {spot(3, 4), nil, 77, nil, api.Tour{End: 77}},
		"none of the stops":     {spot(3, 4), line, 77, nil, api.Tour{End: 77}},
		"none, late on the day": {spot(3, 4), line, api.DayLong, []int{}, api.Tour{End: api.DayLong}},
		"early":                 {spot(0, 0), line, 0, []int{0}, api.Tour{Begins: []int{10}, End: 19, Way: 10, Waits: 5}},
		"just in time":          {spot(0, 0), line, 5, []int{0}, api.Tour{Begins: []int{10}, End: 19, Way: 10}},
		"in the window":         {spot(0, 0), line, 6, []int{0}, api.Tour{Begins: []int{11}, End: 20, Way: 10}},
		"the last minute":       {spot(0, 0), line, 19, []int{0}, api.Tour{Begins: []int{24}, End: 33, Way: 10}},
		"two":                   {spot(0, 0), line, 0, []int{0, 1}, api.Tour{Begins: []int{10, 25}, End: 38, Way: 22, Waits: 5}},
		"the other way":         {spot(1, 1), line, 0, []int{1, 0}, api.Tour{Begins: []int{6, 24}, End: 33, Way: 22}},
		"waits twice":           {spot(0, 0), line, 0, []int{0, 1, 2}, api.Tour{Begins: []int{10, 25, 40}, End: 44, Way: 26, Waits: 5}},
		"waits more":            {spot(0, 0), line, 0, []int{0, 2}, api.Tour{Begins: []int{10, 40}, End: 44, Way: 14, Waits: 24}},
		"all":                   {spot(0, 0), line, 0, []int{3, 0, 1, 2}, api.Tour{Begins: []int{0, 10, 25, 40}, End: 44, Way: 26, Waits: 5}},
		"on the next day":       {spot(0, 0), late, api.DayLong - 2, []int{0}, api.Tour{Begins: []int{api.DayLong}, End: 2*api.DayLong + 2, Way: 4}},
		"from the other side":   {spot(-10_000, -10_000), []api.Stop{open("a", -10_000, -9_000), open("b", -9_900, -9_000)}, 3, []int{0, 1}, api.Tour{Begins: []int{1_003, 1_103}, End: 2_203, Way: 2_200}},
	} {
		if d, e := round.Drive(x.home, x.l, x.start, x.order); !sameTour(d, x.want) || e != api.OK {
			t.Errorf("%s: %v %d", name, d, e)
		}
	}
}

// P6.2: routes that cannot be driven.
func TestNoDrive(t *testing.T) {
	l := []api.Stop{long(stop("a", 5, 0, 10, 20), 4), stop("b", 0, 0, 0, 15), open("c", 9, 9)}
	for name, x := range map[string]struct {
		start int
		order []int
		want  api.Errno
	}{
		"no such stop":               {0, []int{3}, api.ErrArg},
		"no such stop, later":        {0, []int{0, 2, 3}, api.ErrArg},
		"a stop below 0":             {0, []int{-1}, api.ErrArg},
		"the least stop":             {0, []int{math.MinInt}, api.ErrArg},
		"the greatest stop":          {0, []int{math.MaxInt}, api.ErrArg},
		"twice":                      {0, []int{2, 2}, api.ErrTwice},
		"twice, later":               {0, []int{2, 0, 2}, api.ErrTwice},
		"the first stop twice":       {0, []int{0, 0}, api.ErrTwice},
		"after to":                   {16, []int{0}, api.ErrRule},
		"after to, later":            {0, []int{0, 1}, api.ErrRule},
		"after to, and one behind":   {16, []int{0, 2}, api.ErrRule},
		"arg before twice":           {0, []int{2, 3, 2}, api.ErrArg},
		"twice before arg":           {0, []int{2, 2, 3}, api.ErrTwice},
		"arg before a rule":          {16, []int{0, 3}, api.ErrArg},
		"twice before a rule":        {16, []int{0, 2, 2}, api.ErrTwice},
		"many":                       {0, []int{0, 1, 2, 0}, api.ErrTwice},
		"as long as a list can be":   {0, make([]int, 200_000), api.ErrTwice},
		"a minute too late":          {16, []int{1, 0}, api.ErrRule},
		"start at the end of a day":  {api.DayLong, []int{2}, api.ErrRule},
		"start at the end, in place": {api.DayLong, []int{1}, api.ErrRule},
	} {
		if d, e := round.Drive(spot(0, 0), l, x.start, x.order); !sameTour(d, api.Tour{}) || e != x.want {
			t.Errorf("%s: %v %d", name, d, e)
		}
	}
	if d, e := round.Drive(spot(0, 0), nil, 0, []int{0}); !sameTour(d, api.Tour{}) || e != api.ErrArg {
		t.Error(d, e)
	}
}

// walk drives a route minute by minute; false if it cannot be driven.
func walk(home api.Spot, l []api.Stop, start int, order []int) (api.Tour, bool) {
	tour := api.Tour{End: start}
	at := home
	toward := func(a, b int) int {
		switch {
		case a < b:
			return a + 1
		case a > b:
			return a - 1
		}
		return a
	}
	drive := func(to api.Spot) {
		for at != to {
			if at.X != to.X {
				at.X = toward(at.X, to.X)
			} else {
				at.Y = toward(at.Y, to.Y)
			}
			tour.End++
			tour.Way++
		}
	}
	for _, n := range order {
		drive(l[n].Spot)
		for tour.End < l[n].From {
			tour.End++
			tour.Waits++
		}
		if tour.End > l[n].To {
			return api.Tour{}, false
		}
		tour.Begins = append(tour.Begins, tour.End)
		tour.End += l[n].Long
	}
	drive(home)
	return tour, true
}

// someStops makes up to most stops that are near each other, with windows in the first minutes.
func someStops(r *rand.Rand, most int) []api.Stop {
	var l []api.Stop
	for _, k := range keys(r.Intn(most + 1)) {
		from := r.Intn(12)
		to := from + r.Intn(60)
		if r.Intn(3) == 0 {
			to = api.DayLong
		}
		l = append(l, long(stop(k, r.Intn(7)-3, r.Intn(7)-3, from, to), r.Intn(5)))
	}
	return l
}

// some returns up to most different numbers of a list, in any order.
func some(r *rand.Rand, n, most int) []int {
	return r.Perm(n)[:r.Intn(min(n, most)+1)]
}

// P6.2: Drive against a walk.
func TestDriveIsWalk(t *testing.T) {
	r := rand.New(rand.NewSource(2))
	late := 0
	for range 5_000 {
		l, home, start := someStops(r, 7), spot(r.Intn(5)-2, r.Intn(5)-2), r.Intn(20)
		order := some(r, len(l), 7)
		want, ok := walk(home, l, start, order)
		wantError := api.OK
		if !ok {
			wantError = api.ErrRule
			late++
		}
		if d, e := round.Drive(home, l, start, order); !sameTour(d, want) || e != wantError {
			t.Fatalf("%v %v %d %v: %v %d, not %v", home, l, start, order, d, e, want)
		}
	}
	if late < 500 || late > 4_500 {
		t.Error(late)
	}
}

// P6.2: a tour is written.
func TestPrint(t *testing.T) {
	l := []api.Stop{open("b", 0, 0), open("a", 0, 0), open("c-1", 9, 9)}
	for want, begins := range map[string][]int{
		"00:00 b\n00:09 a\n00:10 c-1\n":   {0, 9, 10},
		"00:59 b\n01:00 a\n09:59 c-1\n":   {59, 60, 599},
		"10:00 b\n23:59 a\n24:00 c-1\n":   {600, 1_439, 1_440},
		"99:59 b\n100:00 a\n240:00 c-1\n": {5_999, 6_000, 14_400},
		"12:34 b\n05:06 a\n05:06 c-1\n":   {754, 306, 306}, // in any order
	} {
		// What else a tour has is not looked at.
		if s, e := round.Print(l, api.Tour{Begins: begins, End: -1, Way: -1, Waits: -1}); s != want || e != api.OK {
			t.Errorf("%v: %q %d", begins, s, e)
		}
	}
	if s, e := round.Print(nil, api.Tour{}); s != "" || e != api.OK {
		t.Errorf("%q %d", s, e)
	}
	d, e := round.Drive(spot(0, 0), l, 600, []int{0, 1, 2})
	if s, e2 := round.Print(l, d); s != "10:00 b\n10:00 a\n10:18 c-1\n" || e != api.OK || e2 != api.OK {
		t.Errorf("%q %d %d", s, e, e2)
	}
}

// P6.2: tours that are not written.
func TestNoPrint(t *testing.T) {
	l := []api.Stop{open("b", 0, 0), open("a", 0, 0)}
	for name, x := range map[string]struct {
		begins []int
		want   api.Errno
	}{
		"no begins":           {nil, api.ErrForm},
		"too few":             {[]int{0}, api.ErrForm},
		"too many":            {[]int{0, 0, 0}, api.ErrForm},
		"form before arg":     {[]int{-1}, api.ErrForm},
		"the first below 0":   {[]int{-1, 0}, api.ErrArg},
		"the last below 0":    {[]int{0, -1}, api.ErrArg},
		"too great":           {[]int{14_400, 14_401}, api.ErrArg},
		"the least":           {[]int{math.MinInt, 0}, api.ErrArg},
		"the greatest":        {[]int{0, math.MaxInt}, api.ErrArg},
		"as many as can be":   {make([]int, 200_000), api.ErrForm},
		"the first too great": {[]int{14_401, 0}, api.ErrArg},
	} {
		if s, e := round.Print(l, api.Tour{Begins: x.begins}); s != "" || e != x.want {
			t.Errorf("%s: %q %d", name, s, e)
		}
	}
	if s, e := round.Print(nil, api.Tour{Begins: []int{0}}); s != "" || e != api.ErrForm {
		t.Errorf("%q %d", s, e)
	}
}
