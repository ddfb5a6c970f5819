package vend_test

import (
	"math"
	"math/rand"
	"slices"
	"testing"

	"coilrack/api"
	"coilrack/vend"
)

// example is the tubes of the chapter's example.
func example() []api.Tube {
	return []api.Tube{{Value: 10, Count: 3, Most: 20}, {Value: 25, Count: 1, Most: 20}, {Value: 50, Count: 0, Most: 2}}
}

// tubesOf makes n tubes of 1, 2, 3 .. cents.
func tubesOf(n int) []api.Tube {
	var l []api.Tube
	for i := range n {
		l = append(l, api.Tube{Value: i + 1, Count: 1, Most: 2})
	}
	return l
}

// badTubes is lists of tubes with their errors.
func badTubes() map[string]struct {
	tubes []api.Tube
	want  api.Errno
} {
	type row = struct {
		tubes []api.Tube
		want  api.Errno
	}
	many := tubesOf(api.MaxTubes + 1)
	many[0].Value = 0
	return map[string]row{
		"too many, before others":  {many, api.ErrLarge},
		"value 0":                  {[]api.Tube{{Value: 0}}, api.ErrArg},
		"value below 0":            {[]api.Tube{{Value: -1}}, api.ErrArg},
		"least value":              {[]api.Tube{{Value: math.MinInt}}, api.ErrArg},
		"value above 10,000":       {[]api.Tube{{Value: 10_001}}, api.ErrArg},
		"greatest value":           {[]api.Tube{{Value: math.MaxInt}}, api.ErrArg},
		"equal values":             {[]api.Tube{{Value: 5}, {Value: 5}}, api.ErrOrder},
		"falling values":           {[]api.Tube{{Value: 5}, {Value: 4}}, api.ErrOrder},
		"most below 0":             {[]api.Tube{{Value: 5, Most: -1}}, api.ErrArg},
		"most above 1,000":         {[]api.Tube{{Value: 5, Most: 1_001}}, api.ErrArg},
		"greatest most":            {[]api.Tube{{Value: 5, Count: math.MaxInt, Most: math.MaxInt}}, api.ErrArg},
		"count below 0":            {[]api.Tube{{Value: 5, Count: -1, Most: 3}}, api.ErrArg},
		"count above most":         {[]api.Tube{{Value: 5, Count: 4, Most: 3}}, api.ErrArg},
		"a bad value before order": {[]api.Tube{{Value: 5}, {Value: 0}}, api.ErrArg},
		"order before a bad most":  {[]api.Tube{{Value: 5}, {Value: 5, Most: -1}}, api.ErrOrder},
		"the first tube first":     {[]api.Tube{{Value: 5, Most: -1}, {Value: 5}}, api.ErrArg},
		"order of an early tube":   {[]api.Tube{{Value: 5}, {Value: 5}, {Value: 0}}, api.ErrOrder},
	}
}

// P1.1: what is wrong with tubes.
func TestCheckTubes(t *testing.T) {
	for name, x := range badTubes() {
		if e := vend.CheckTubes(x.tubes); e != x.want {
			t.Errorf("%s: %d", name, e)
		}
	}
	good := [][]api.Tube{
		nil, {}, example(), tubesOf(api.MaxTubes),
		{{Value: 1}, {Value: 10_000, Count: 1_000, Most: 1_000}}, {{Value: 7, Count: 0, Most: 1_000}},
	}
	for _, l := range good {
		if e := vend.CheckTubes(l); e != api.OK {
			t.Errorf("%v: %d", l, e)
		}
	}
}

// P1.1: every function with tubes returns the error of the tubes first, and with it nothing else.
func TestTubesFirst(t *testing.T) {
	for name, x := range badTubes() {
		n, e := vend.Total(x.tubes)
		if n != 0 || e != x.want {
			t.Errorf("%s: Total %d %d", name, n, e)
		}
		c, e := vend.Change(x.tubes, -1)
		if len(c) != 0 || e != x.want {
			t.Errorf("%s: Change %v %d", name, c, e)
		}
		c, n, e = vend.Greedy(x.tubes, -1)
		if len(c) != 0 || n != 0 || e != x.want {
			t.Errorf("%s: Greedy %v %d %d", name, c, n, e)
		}
		w, e := vend.Reach(x.tubes, -1)
		if len(w) != 0 || e != x.want {
			t.Errorf("%s: Reach %v %d", name, w, e)
		}
		n, ok, e := vend.Lacking(x.tubes, -1, 0)
		if n != 0 || ok || e != x.want {
			t.Errorf("%s: Lacking %d %v %d", name, n, ok, e)
		}
		l, n, e := vend.Settle(x.tubes, []int{-1})
		if len(l) != 0 || n != 0 || e != x.want {
			t.Errorf("%s: Settle %v %d %d", name, l, n, e)
		}
		d, e := vend.Doubts(x.tubes, make([]int, 100), nil)
		if len(d) != 0 || e != x.want {
			t.Errorf("%s: Doubts %v %d", name, d, e)
		}
		c, e = vend.Float(x.tubes, -1)
		if len(c) != 0 || e != x.want {
			t.Errorf("%s: Float %v %d", name, c, e)
		}
	}
}

// P1.1: Total.
func TestTotal(t *testing.T) {
	full := tubesOf(api.MaxTubes)
	for i := range full {
		full[i] = api.Tube{Value: 10_000 - 9 + i, Count: 1_000, Most: 1_000}
	}
	for _, x := range []struct {
		tubes []api.Tube
		want  int
	}{{nil, 0}, {example(), 55}, {tubesOf(4), 10}, {full, 99_955_000}} {
		if n, e := vend.Total(x.tubes); n != x.want || e != api.OK {
			t.Errorf("%v: %d %d", x.tubes, n, e)
		}
	}
}

// P1.2: Change and Greedy where the document names the result.
func TestChangeAndGreedy(t *testing.T) {
	tie := []api.Tube{{Value: 1, Count: 9, Most: 9}, {Value: 3, Count: 9, Most: 9}, {Value: 5, Count: 9, Most: 9}, {Value: 7, Count: 9, Most: 9}}
	for _, x := range []struct {
		tubes  []api.Tube
		amount int
		change []int
		e      api.Errno
		greedy []int
		left   int
	}{
		{example(), 30, []int{3, 0, 0}, api.OK, []int{0, 1, 0}, 5},
		{example(), 0, []int{0, 0, 0}, api.OK, []int{0, 0, 0}, 0},
		{example(), 55, []int{3, 1, 0}, api.OK, []int{3, 1, 0}, 0},
		{example(), 56, nil, api.ErrNone, []int{3, 1, 0}, 1},
		{example(), 40, nil, api.ErrNone, []int{1, 1, 0}, 5},
		{example(), 1, nil, api.ErrNone, []int{0, 0, 0}, 1},
		{example(), 20_000, nil, api.ErrNone, []int{3, 1, 0}, 19_945},
		{nil, 0, nil, api.OK, nil, 0},
		{nil, 20_000, nil, api.ErrNone, nil, 20_000},
		// 7+1 and 5+3: as few coins, but more sevens
		{tie, 8, []int{1, 0, 0, 1}, api.OK, []int{1, 0, 0, 1}, 0},
		// 7+5+1, 7+3+3, 5+5+3: three coins; more sevens, then more fives
		{tie, 13, []int{1, 0, 1, 1}, api.OK, []int{1, 0, 1, 1}, 0},
		// 7+3 and 5+5; Greedy has 7+3 too
		{tie, 10, []int{0, 1, 0, 1}, api.OK, []int{0, 1, 0, 1}, 0},
		// fewer coins than Greedy: 4+4, not 5+1+1+1
		{[]api.Tube{{Value: 1, Count: 9, Most: 9}, {Value: 4, Count: 2, Most: 9}, {Value: 5, Count: 1, Most: 9}}, 8, []int{0, 2, 0}, api.OK, []int{3, 0, 1}, 0},
		// all of a full tube
		{[]api.Tube{{Value: 20, Count: 1_000, Most: 1_000}}, 20_000, []int{1_000}, api.OK, []int{1_000}, 0},
		{[]api.Tube{{Value: 20, Count: 999, Most: 1_000}}, 20_000, nil, api.ErrNone, []int{999}, 20},
	} {
		c, e := vend.Change(x.tubes, x.amount)
		if !slices.Equal(c, x.change) || e != x.e {
			t.Errorf("Change %v %d: %v %d", x.tubes, x.amount, c, e)
		}
		g, left, e := vend.Greedy(x.tubes, x.amount)
		if !slices.Equal(g, x.greedy) || left != x.left || e != api.OK {
			t.Errorf("Greedy %v %d: %v %d %d", x.tubes, x.amount, g, left, e)
		}
	}
}

// P1.2: amounts out of their range.
func TestAmounts(t *testing.T) {
	for _, n := range []int{-1, math.MinInt, api.MaxAmount + 1, math.MaxInt} {
		c, e := vend.Change(example(), n)
		if len(c) != 0 || e != api.ErrArg {
			t.Errorf("Change %d: %v %d", n, c, e)
		}
		c, left, e := vend.Greedy(example(), n)
		if len(c) != 0 || left != 0 || e != api.ErrArg {
			t.Errorf("Greedy %d: %v %d %d", n, c, left, e)
		}
		w, e := vend.Reach(example(), n)
		if len(w) != 0 || e != api.ErrArg {
			t.Errorf("Reach %d: %v %d", n, w, e)
		}
		got, ok, e := vend.Lacking(example(), n, 1)
		if got != 0 || ok || e != api.ErrArg {
			t.Errorf("Lacking up to %d: %d %v %d", n, got, ok, e)
		}
	}
	for _, n := range []int{0, -1, math.MinInt, api.MaxAmount + 1, math.MaxInt} {
		got, ok, e := vend.Lacking(example(), 100, n)
		if got != 0 || ok || e != api.ErrArg {
			t.Errorf("Lacking by %d: %d %v %d", n, got, ok, e)
		}
	}
}

func worth(l []api.Tube, coins []int) int {
	sum := 0
	for i, n := range coins {
		sum += n * l[i].Value
	}
	return sum
}

func number(coins []int) int {
	sum := 0
	for _, n := range coins {
		sum += n
	}
	return sum
}

// better reports whether a is to be preferred to b: fewer coins, then more of the greatest Value with different numbers.
func better(a, b []int) bool {
	if number(a) != number(b) {
		return number(a) < number(b)
	}
	for i := len(a) - 1; i >= 0; i-- {
		if a[i] != b[i] {
			return a[i] > b[i]
		}
	}
	return false
}

// allBest tries all coins, and returns the best way of each amount.
func allBest(l []api.Tube) map[int][]int {
	best := map[int][]int{}
	coins := make([]int, len(l))
	var try func(i int)
	try = func(i int) {
		if i == len(l) {
			a := worth(l, coins)
			if b, ok := best[a]; !ok || better(coins, b) {
				best[a] = slices.Clone(coins)
			}
			return
		}
		for coins[i] = 0; coins[i] <= l[i].Count; coins[i]++ {
			try(i + 1)
		}
		coins[i] = 0
	}
	try(0)
	return best
}

// someTubes makes up to most tubes with small values and counts.
func someTubes(r *rand.Rand, most int) []api.Tube {
	var l []api.Tube
	value := 0
	for range r.Intn(most + 1) {
		value += 1 + r.Intn(6)
		count := r.Intn(5)
		l = append(l, api.Tube{Value: value, Count: count, Most: count + r.Intn(4)})
	}
	return l
}

// P1.2: Change, Greedy, Reach and Lacking against all ways to pay.
func TestAgainstAllWays(t *testing.T) {
	r := rand.New(rand.NewSource(1))
	for range 400 {
		l := someTubes(r, 5)
		best := allBest(l)
		most := r.Intn(90)
		var reach []api.Window
		for a := 0; a <= most; a++ {
			c, e := vend.Change(l, a)
			want, ok := best[a]
			if ok != (e == api.OK) || !slices.Equal(c, want) || !ok && e != api.ErrNone {
				t.Fatalf("Change %v %d: %v %d, not %v", l, a, c, e, want)
			}
			g, left, e := vend.Greedy(l, a)
			if e != api.OK || worth(l, g)+left != a {
				t.Fatalf("Greedy %v %d: %v %d", l, a, g, left)
			}
			if left == 0 && (!ok || number(c) > number(g)) {
				t.Fatalf("%v %d: Change %v has more coins than Greedy %v", l, a, c, g)
			}
			if !ok {
				continue
			}
			if k := len(reach); k > 0 && reach[k-1].To == a {
				reach[k-1].To++
			} else {
				reach = append(reach, api.Window{From: a, To: a + 1})
			}
		}
		if w, e := vend.Reach(l, most); e != api.OK || !slices.Equal(w, reach) {
			t.Fatalf("Reach %v %d: %v %d, not %v", l, most, w, e, reach)
		}
		step := 1 + r.Intn(12)
		want, none := 0, false
		for a := step; a <= most && !none; a += step {
			if _, ok := best[a]; !ok {
				want, none = a, true
			}
		}
		if n, ok, e := vend.Lacking(l, most, step); n != want || ok != none || e != api.OK {
			t.Fatalf("Lacking %v %d %d: %d %v %d, not %d %v", l, most, step, n, ok, e, want, none)
		}
	}
}

// P1.2: Change with long tubes, against numbers of coins that are found tube by tube, coin by coin.
func TestLongTubes(t *testing.T) {
	r := rand.New(rand.NewSource(2))
	for range 20 {
		var l []api.Tube
		value := 0
		for range 1 + r.Intn(5) {
			value += 1 + r.Intn(40)
			l = append(l, api.Tube{Value: value, Count: r.Intn(120), Most: 1_000})
		}
		const most = 3_000
		best := make([]int, most+1)
		for a := 1; a <= most; a++ {
			best[a] = math.MaxInt32
		}
		for _, x := range l {
			next := slices.Clone(best)
			for a := range next {
				for k := 1; k <= x.Count && k*x.Value <= a; k++ {
					next[a] = min(next[a], best[a-k*x.Value]+k)
				}
			}
			best = next
		}
		for range 60 {
			a := r.Intn(most + 1)
			c, e := vend.Change(l, a)
			if best[a] >= math.MaxInt32 {
				if e != api.ErrNone || len(c) != 0 {
					t.Fatalf("%v %d: %v %d", l, a, c, e)
				}
				continue
			}
			if e != api.OK || worth(l, c) != a || number(c) != best[a] {
				t.Fatalf("%v %d: %v %d, not %d coins", l, a, c, e, best[a])
			}
			for i, n := range c {
				if n < 0 || n > l[i].Count {
					t.Fatalf("%v %d: %v", l, a, c)
				}
			}
		}
	}
}

// P1.2: Reach and Lacking where the document names the result.
func TestReachAndLacking(t *testing.T) {
	for _, x := range []struct {
		tubes []api.Tube
		most  int
		want  []api.Window
	}{
		{example(), 60, []api.Window{{From: 0, To: 1}, {From: 10, To: 11}, {From: 20, To: 21}, {From: 25, To: 26}, {From: 30, To: 31}, {From: 35, To: 36}, {From: 45, To: 46}, {From: 55, To: 56}}},
		{example(), 20, []api.Window{{From: 0, To: 1}, {From: 10, To: 11}, {From: 20, To: 21}}},
		{example(), 19, []api.Window{{From: 0, To: 1}, {From: 10, To: 11}}},
		{example(), 0, []api.Window{{From: 0, To: 1}}},
		{nil, api.MaxAmount, []api.Window{{From: 0, To: 1}}},
		{tubesOf(4), 8, []api.Window{{From: 0, To: 9}}},
		{tubesOf(4), api.MaxAmount, []api.Window{{From: 0, To: 11}}},
		{[]api.Tube{{Value: 1, Count: 1, Most: 1}, {Value: 3, Count: 2, Most: 2}}, 7, []api.Window{{From: 0, To: 2}, {From: 3, To: 5}, {From: 6, To: 8}}},
	} {
		if w, e := vend.Reach(x.tubes, x.most); e != api.OK || !slices.Equal(w, x.want) {
			t.Errorf("Reach %v %d: %v %d", x.tubes, x.most, w, e)
		}
	}
	for _, x := range []struct {
		tubes      []api.Tube
		most, step int
		want       int
		ok         bool
	}{
		{example(), 60, 10, 40, true},
		{example(), 40, 10, 40, true},
		{example(), 39, 10, 0, false},
		{example(), 60, 5, 5, true},
		{example(), 55, 55, 0, false},
		{example(), 100, 25, 50, true},
		{example(), 5, 6, 0, false},
		{example(), 0, 1, 0, false},
		{nil, 1, 1, 1, true},
		{nil, api.MaxAmount, api.MaxAmount, api.MaxAmount, true},
		{[]api.Tube{{Value: 20, Count: 1_000, Most: 1_000}}, api.MaxAmount, 20, 0, false},
	} {
		if n, ok, e := vend.Lacking(x.tubes, x.most, x.step); n != x.want || ok != x.ok || e != api.OK {
			t.Errorf("Lacking %v %d %d: %d %v %d", x.tubes, x.most, x.step, n, ok, e)
		}
	}
}

// P1.2: Settle.
func TestSettle(t *testing.T) {
	l := example()
	s, over, e := vend.Settle(l, []int{1, 19, 3})
	want := []api.Tube{{Value: 10, Count: 4, Most: 20}, {Value: 25, Count: 20, Most: 20}, {Value: 50, Count: 2, Most: 2}}
	if !slices.Equal(s, want) || over != 50 || e != api.OK {
		t.Error(s, over, e)
	}
	s, over, e = vend.Settle(nil, nil)
	if len(s) != 0 || over != 0 || e != api.OK {
		t.Error(s, over, e)
	}
	s, over, e = vend.Settle(l, []int{0, 0, 10_000})
	if e != api.OK || over != 9_998*50 || s[2].Count != 2 {
		t.Error(s, over, e)
	}
	for _, x := range []struct {
		add  []int
		want api.Errno
	}{
		{nil, api.ErrForm}, {[]int{1, 1}, api.ErrForm}, {[]int{-1, 1, 1, 1}, api.ErrForm},
		{[]int{-1, 0, 0}, api.ErrArg}, {[]int{0, 0, 10_001}, api.ErrArg},
		{[]int{0, math.MinInt, 0}, api.ErrArg}, {[]int{0, math.MaxInt, 0}, api.ErrArg},
	} {
		if s, over, e := vend.Settle(l, x.add); len(s) != 0 || over != 0 || e != x.want {
			t.Errorf("%v: %v %d %d", x.add, s, over, e)
		}
	}
}

// P1.2: Settle loses nothing.
func TestSettleAddsUp(t *testing.T) {
	r := rand.New(rand.NewSource(3))
	for range 300 {
		l := someTubes(r, 6)
		var add []int
		for range l {
			add = append(add, r.Intn(8))
		}
		s, over, e := vend.Settle(l, add)
		before, _ := vend.Total(l)
		after, bad := vend.Total(s)
		if e != api.OK || bad != api.OK || before+worth(l, add) != after+over {
			t.Fatalf("%v %v: %v %d", l, add, s, over)
		}
		for i := range s {
			if s[i].Count != min(l[i].Count+add[i], l[i].Most) || s[i].Value != l[i].Value || s[i].Most != l[i].Most {
				t.Fatalf("%v %v: %v", l, add, s)
			}
		}
	}
}

// P1.2: Doubts.
func TestDoubts(t *testing.T) {
	for _, x := range []struct {
		prices, takes []int
		want          []api.Doubt
	}{
		{[]int{80}, []int{100, 200}, []api.Doubt{{Price: 80, Value: 200}}},
		{[]int{90, 80, 90}, []int{200, 130, 200, 100}, []api.Doubt{{Price: 80, Value: 130}, {Price: 80, Value: 200}, {Price: 90, Value: 130}, {Price: 90, Value: 200}}},
		{[]int{80, 200, 201}, []int{200}, []api.Doubt{{Price: 80, Value: 200}}},
		{[]int{1}, []int{api.MaxAmount}, []api.Doubt{{Price: 1, Value: api.MaxAmount}}},
		{[]int{50, 60, 70}, []int{80}, nil},
		{[]int{80}, []int{80}, nil},
		{nil, []int{100}, nil},
		{[]int{80}, nil, nil},
		{nil, nil, nil},
	} {
		if d, e := vend.Doubts(example(), x.prices, x.takes); e != api.OK || !slices.Equal(d, x.want) {
			t.Errorf("%v %v: %v %d", x.prices, x.takes, d, e)
		}
	}
	ones := func(n int) []int { return slices.Repeat([]int{1}, n) }
	for _, x := range []struct {
		prices, takes []int
		want          api.Errno
	}{
		{ones(api.MaxSlots), ones(api.MaxTakes), api.OK},
		{ones(api.MaxSlots + 1), nil, api.ErrLarge},
		{nil, ones(api.MaxTakes + 1), api.ErrLarge},
		{[]int{0}, ones(api.MaxTakes + 1), api.ErrLarge},
		{[]int{0}, nil, api.ErrArg},
		{[]int{1, -5}, nil, api.ErrArg},
		{[]int{api.MaxAmount + 1}, nil, api.ErrArg},
		{[]int{math.MaxInt}, []int{1}, api.ErrArg},
		{nil, []int{0}, api.ErrArg},
		{nil, []int{5, math.MinInt}, api.ErrArg},
		{nil, []int{api.MaxAmount + 1}, api.ErrArg},
		{[]int{api.MaxAmount}, []int{api.MaxAmount}, api.OK},
	} {
		if d, e := vend.Doubts(example(), x.prices, x.takes); len(d) != 0 || e != x.want {
			t.Errorf("%v %v: %v %d", x.prices, x.takes, d, e)
		}
	}
}

// P1.2: Float.
func TestFloat(t *testing.T) {
	for _, x := range []struct {
		tubes []api.Tube
		want  int
		add   []int
	}{
		{example(), 100, []int{-1, 0, 1}},
		{example(), 0, []int{-3, -1, 0}},
		{example(), 9, []int{-3, -1, 0}},
		{example(), 10, []int{-2, -1, 0}},
		// 10, but not 25 or 50; then 10 and 10
		{example(), 34, []int{0, -1, 0}},
		// 10 and 25, but not 50; then 10 and 25; then 10
		{example(), 84, []int{0, 1, 0}},
		{example(), 85, []int{-2, 0, 1}},
		{example(), api.MaxCents, []int{17, 19, 2}},
		{nil, api.MaxCents, nil},
		{[]api.Tube{{Value: 1}, {Value: 2, Most: 3}}, 6, []int{0, 3}},
		{[]api.Tube{{Value: 1, Most: 1_000}, {Value: 10_000, Count: 1_000, Most: 1_000}}, 10_000_999, []int{1_000, -1}},
		{[]api.Tube{{Value: 1, Most: 1_000}, {Value: 10_000, Count: 1_000, Most: 1_000}}, 10_001_000, []int{1_000, 0}},
	} {
		if c, e := vend.Float(x.tubes, x.want); e != api.OK || !slices.Equal(c, x.add) {
			t.Errorf("%v %d: %v %d", x.tubes, x.want, c, e)
		}
	}
	for _, n := range []int{-1, math.MinInt, api.MaxCents + 1, math.MaxInt} {
		if c, e := vend.Float(example(), n); len(c) != 0 || e != api.ErrArg {
			t.Errorf("%d: %v %d", n, c, e)
		}
	}
}
