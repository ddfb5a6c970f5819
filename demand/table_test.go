package demand_test

import (
	"math"
	"math/rand"
	"slices"
	"testing"

	"coilrack/api"
	"coilrack/demand"
)

func table(rows ...[]int) api.Table { return api.Table{Share: rows} }

// none is a table of n products, none of which is taken instead of another one.
func none(n int) api.Table {
	var t api.Table
	for range n {
		t.Share = append(t.Share, make([]int, n))
	}
	return t
}

// someTable makes a table of up to most products.
func someTable(r *rand.Rand, most int) api.Table {
	t := none(1 + r.Intn(most))
	for i, row := range t.Share {
		left := 100
		for _, j := range r.Perm(len(row)) {
			if j != i && r.Intn(3) > 0 {
				row[j] = r.Intn(left + 1)
				left -= row[j]
			}
		}
	}
	return t
}

// P3.5: what is wrong with a table; Instead returns this error first.
func TestCheckTable(t *testing.T) {
	for name, x := range map[string]struct {
		t    api.Table
		want api.Errno
	}{
		"empty":                    {api.Table{}, api.ErrNone},
		"an empty list":            {table([][]int{}...), api.ErrNone},
		"too many products":        {none(31), api.ErrLarge},
		"too many, of no form":     {api.Table{Share: make([][]int, 31)}, api.ErrLarge},
		"a list too short":         {table([]int{0, 0}, []int{0}), api.ErrForm},
		"a list too long":          {table([]int{0, 0, 0}, []int{0, 0}), api.ErrForm},
		"no list":                  {table(nil), api.ErrForm},
		"form before range":        {table([]int{-1}, []int{0, 0}), api.ErrForm},
		"the first list first":     {table([]int{0, -1}, nil), api.ErrArg},
		"the first own one first":  {table([]int{1, 0}, nil), api.ErrArg},
		"below 0":                  {table([]int{0, 0}, []int{-1, 0}), api.ErrArg},
		"least":                    {table([]int{0, math.MinInt}, []int{0, 0}), api.ErrArg},
		"greater than 100":         {table([]int{0, 101}, []int{0, 0}), api.ErrArg},
		"greatest":                 {table([]int{0, math.MaxInt}, []int{0, 0}), api.ErrArg},
		"a sum of all ints":        {table([]int{0, math.MaxInt, math.MinInt}, []int{0, 0, 0}, []int{0, 0, 0}), api.ErrArg},
		"its own is not 0":         {table([]int{0, 0}, []int{0, 1}), api.ErrArg},
		"the only one is not 0":    {table([]int{1}), api.ErrArg},
		"a sum greater than 100":   {table([]int{0, 60, 41}, []int{0, 0, 0}, []int{0, 0, 0}), api.ErrArg},
		"the last sum is too much": {table([]int{0, 0, 0}, []int{0, 0, 0}, []int{51, 50, 0}), api.ErrArg},
	} {
		if e := demand.CheckTable(x.t); e != x.want {
			t.Errorf("%s: CheckTable %d", name, e)
		}
		if s, l, e := demand.Instead(x.t, []int{-1}, []int{-1}); len(s) != 0 || len(l) != 0 || e != x.want {
			t.Errorf("%s: Instead %v %v %d", name, s, l, e)
		}
	}
	for _, good := range []api.Table{
		none(1), none(30), table([]int{0, 100}, []int{0, 0}), table([]int{0, 60, 40}, []int{1, 0, 99}, []int{100, 0, 0}),
	} {
		if e := demand.CheckTable(good); e != api.OK {
			t.Errorf("%v: %d", good, e)
		}
	}
}

// P3.5: what is sold and lost.
func TestInstead(t *testing.T) {
	two := table([]int{0, 50}, []int{20, 0})
	three := table([]int{0, 50, 50}, []int{0, 0, 0}, []int{0, 0, 0})
	million := 1_000_000
	for name, x := range map[string]struct {
		t                        api.Table
		wants, stock, sold, lost []int
	}{
		"as many as there are":     {two, []int{4, 3}, []int{4, 3}, []int{4, 3}, []int{0, 0}},
		"the other one runs out":   {two, []int{10, 1}, []int{4, 3}, []int{4, 3}, []int{4, 0}},
		"the other one is enough":  {two, []int{10, 1}, []int{4, 9}, []int{4, 4}, []int{3, 0}},
		"rounded down":             {two, []int{11, 0}, []int{4, 9}, []int{4, 3}, []int{4, 0}},
		"too few for one":          {two, []int{0, 4}, []int{9, 0}, []int{0, 0}, []int{0, 4}},
		"the second one's":         {two, []int{0, 10}, []int{9, 0}, []int{2, 0}, []int{0, 8}},
		"first wants go first":     {two, []int{2, 10}, []int{2, 0}, []int{2, 0}, []int{0, 10}},
		"nothing is there":         {two, []int{5, 6}, []int{0, 0}, []int{0, 0}, []int{5, 6}},
		"nothing is wanted":        {two, []int{0, 0}, []int{5, 6}, []int{0, 0}, []int{0, 0}},
		"one product":              {none(1), []int{5}, []int{3}, []int{3}, []int{2}},
		"no one asks again":        {three, []int{10, 0, 0}, []int{0, 1, 9}, []int{0, 1, 5}, []int{4, 0, 0}},
		"both halves rounded down": {three, []int{5, 0, 0}, []int{0, 9, 9}, []int{0, 2, 2}, []int{1, 0, 0}},
		"the first product first": {
			table([]int{0, 0, 100}, []int{0, 0, 100}, []int{0, 0, 0}), []int{3, 3, 1}, []int{0, 0, 5}, []int{0, 0, 5}, []int{0, 2, 0},
		},
		"each in its row": {
			table([]int{0, 100, 0}, []int{0, 0, 100}, []int{100, 0, 0}), []int{5, 0, 2}, []int{1, 3, 0}, []int{1, 3, 0}, []int{1, 0, 2},
		},
		"as many as can be": {
			table([]int{0, 100}, []int{0, 0}), []int{million, million}, []int{0, million}, []int{0, million}, []int{million, 0},
		},
		"all take the other one": {table([]int{0, 100}, []int{0, 0}), []int{million, 0}, []int{0, million}, []int{0, million}, []int{0, 0}},
	} {
		s, l, e := demand.Instead(x.t, x.wants, x.stock)
		if !slices.Equal(s, x.sold) || !slices.Equal(l, x.lost) || e != api.OK {
			t.Errorf("%s: %v %v %d", name, s, l, e)
		}
	}
}

// P3.5: what Instead refuses, and in which order.
func TestInsteadErrors(t *testing.T) {
	for name, x := range map[string]struct {
		wants, stock []int
		want         api.Errno
	}{
		"too few wants":       {[]int{-1}, []int{0, 0}, api.ErrForm},
		"too many wants":      {[]int{0, 0, 0}, []int{0, 0}, api.ErrForm},
		"too little stock":    {[]int{-1, 0}, []int{0}, api.ErrForm},
		"too much stock":      {[]int{0, 0}, []int{0, 0, -1}, api.ErrForm},
		"nothing":             {nil, nil, api.ErrForm},
		"wants below 0":       {[]int{0, -1}, []int{0, 0}, api.ErrArg},
		"least wants":         {[]int{math.MinInt, 0}, []int{0, 0}, api.ErrArg},
		"wants too great":     {[]int{1_000_001, 0}, []int{0, 0}, api.ErrArg},
		"greatest wants":      {[]int{math.MaxInt, 0}, []int{0, 0}, api.ErrArg},
		"stock below 0":       {[]int{0, 0}, []int{-1, 0}, api.ErrArg},
		"least stock":         {[]int{0, 0}, []int{0, math.MinInt}, api.ErrArg},
		"stock too great":     {[]int{0, 0}, []int{0, 1_000_001}, api.ErrArg},
		"greatest stock":      {[]int{0, 0}, []int{0, math.MaxInt}, api.ErrArg},
		"both, of all values": {[]int{math.MaxInt, math.MinInt}, []int{math.MinInt, math.MaxInt}, api.ErrArg},
	} {
		s, l, e := demand.Instead(none(2), x.wants, x.stock)
		if len(s) != 0 || len(l) != 0 || e != x.want {
			t.Errorf("%s: %v %v %d", name, s, l, e)
		}
	}
}

// takeInstead sends customers to one product after the other, one by one.
func takeInstead(t api.Table, wants, stock []int) (sold, lost []int) {
	there := slices.Clone(stock)
	sold, lost = make([]int, len(wants)), make([]int, len(wants))
	left := slices.Clone(wants)
	for i := range left {
		for left[i] > 0 && there[i] > 0 {
			left[i]--
			there[i]--
			sold[i]++
		}
	}
	for i, n := range left {
		again := make([]int, len(wants))
		lost[i] = n
		for j := range again {
			again[j] = n * t.Share[i][j] / 100
		}
		for j := range again {
			for again[j] > 0 && there[j] > 0 {
				again[j]--
				there[j]--
				sold[j]++
				lost[i]--
			}
		}
	}
	return sold, lost
}

// P3.5: Instead against customers one by one; no more is sold than there is, and all that was wanted is sold or lost.
func TestInsteadOfSome(t *testing.T) {
	r := rand.New(rand.NewSource(8))
	for range 2_000 {
		x := someTable(r, 6)
		n := len(x.Share)
		wants, stock := make([]int, n), make([]int, n)
		all := 0
		for i := range wants {
			wants[i], stock[i] = r.Intn(30), r.Intn(30)*r.Intn(2)
			all += wants[i]
		}
		wantSold, wantLost := takeInstead(x, wants, stock)
		s, l, e := demand.Instead(x, wants, stock)
		if !slices.Equal(s, wantSold) || !slices.Equal(l, wantLost) || e != api.OK {
			t.Fatal(x, wants, stock, s, l, e)
		}
		for i := range s {
			if s[i] > stock[i] || l[i] < 0 || l[i] > wants[i] {
				t.Fatal(x, wants, stock, s, l)
			}
			all -= s[i] + l[i]
		}
		if all != 0 {
			t.Fatal(x, wants, stock, s, l)
		}
	}
}
