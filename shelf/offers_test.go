package shelf_test

import (
	"fmt"
	"math"
	"math/rand"
	"slices"
	"strings"
	"testing"

	"coilrack/api"
	"coilrack/shelf"
)

func offer(key, group string, profits ...int) api.Offer {
	return api.Offer{Key: key, Group: group, Profits: profits}
}

func has(o api.Offer, allergens ...string) api.Offer {
	o.Has = allergens
	return o
}

func hates(o api.Offer, allergens ...string) api.Offer {
	o.Hates = allergens
	return o
}

func quota(group string, least, most int) api.Quota {
	return api.Quota{Group: group, Least: least, Most: most}
}

// example is the offers of the chapter's example.
func example() []api.Offer {
	return []api.Offer{offer("a", "sweet", 5, 4), offer("b", "salt", 6, 1)}
}

// mixed is offers of two groups in turn, some of which clash.
func mixed() []api.Offer {
	return []api.Offer{
		has(offer("bar", "sweet", 50, 40, 10), "milk", "nut"),
		hates(has(offer("can", "drink", 60, 30, 30, -5), "sugar"), "salt"),
		hates(has(offer("jam", "sweet", 20, 70), "sugar"), "milk"),
		hates(has(offer("nut", "salty", -10, 90), "nut", "salt"), "gluten"),
		offer("tea", "drink", 0, 0, 25),
	}
}

// keys makes n keys in order.
func keys(n int) []string {
	var l []string
	for i := range n {
		l = append(l, fmt.Sprintf("k%04d", i))
	}
	return l
}

// manyOffers makes n offers that are as large as they can be, of as many groups.
func manyOffers(n int) []api.Offer {
	var l []api.Offer
	for i, k := range keys(n) {
		var profits []int
		for j := range api.MaxFacings {
			profits = append(profits, 1_000_000-17*i*j%101)
		}
		l = append(l, hates(has(offer(k, k, profits...), keys(10)...), keys(10)...))
	}
	return l
}

// someOffers makes up to most offers with small numbers, of groups and with allergens that occur more than once.
func someOffers(r *rand.Rand, most int) []api.Offer {
	allergens := func() []string {
		var l []string
		for _, s := range []string{"egg", "milk", "nut"} {
			if r.Intn(4) == 0 {
				l = append(l, s)
			}
		}
		return l
	}
	var l []api.Offer
	for _, k := range []string{"a", "aa", "b", "c", "d-1", "e"}[:r.Intn(most+1)] {
		var profits []int
		for range 1 + r.Intn(4) {
			profits = append(profits, r.Intn(7)-2)
		}
		o := offer(k, []string{"salt", "sweet", "x"}[r.Intn(3)], profits...)
		l = append(l, hates(has(o, allergens()...), allergens()...))
	}
	return l
}

// badOffers is lists of offers with their errors.
func badOffers() map[string]struct {
	l    []api.Offer
	want api.Errno
} {
	type row = struct {
		l    []api.Offer
		want api.Errno
	}
	good, long := offer("a", "g", 1), strings.Repeat("k", api.MaxName+1)
	eleven := make([]int, 11)
	return map[string]row{
		"too many":                    {manyOffers(api.MaxOffers + 1), api.ErrLarge},
		"too many, before others":     {make([]api.Offer, api.MaxOffers+1), api.ErrLarge},
		"no key":                      {[]api.Offer{offer("", "g", 1)}, api.ErrName},
		"a key that is none":          {[]api.Offer{good, offer("B", "g", 1)}, api.ErrName},
		"a long key":                  {[]api.Offer{offer(long, "g", 1)}, api.ErrName},
		"the same key":                {[]api.Offer{good, offer("a", "h", 1)}, api.ErrOrder},
		"a lesser key":                {[]api.Offer{offer("b", "g", 1), good}, api.ErrOrder},
		"no group":                    {[]api.Offer{good, offer("b", "", 1)}, api.ErrName},
		"a group that is no key":      {[]api.Offer{offer("a", "a b", 1)}, api.ErrName},
		"no profits":                  {[]api.Offer{good, offer("b", "g")}, api.ErrNone},
		"too many profits":            {[]api.Offer{offer("a", "g", eleven...)}, api.ErrLarge},
		"a profit too great":          {[]api.Offer{offer("a", "g", 1, 1_000_001)}, api.ErrArg},
		"the greatest profit":         {[]api.Offer{offer("a", "g", math.MaxInt)}, api.ErrArg},
		"a profit too small":          {[]api.Offer{offer("a", "g", -1_000_001, 1)}, api.ErrArg},
		"the least profit":            {[]api.Offer{offer("a", "g", math.MinInt)}, api.ErrArg},
		"has too many":                {[]api.Offer{has(good, keys(11)...)}, api.ErrLarge},
		"has no key":                  {[]api.Offer{has(good, "a", "")}, api.ErrName},
		"has one twice":               {[]api.Offer{has(good, "a", "a")}, api.ErrOrder},
		"has them not in order":       {[]api.Offer{has(good, "b", "a")}, api.ErrOrder},
		"hates too many":              {[]api.Offer{hates(good, keys(11)...)}, api.ErrLarge},
		"hates no key":                {[]api.Offer{hates(good, "a", "É")}, api.ErrName},
		"hates one twice":             {[]api.Offer{hates(good, "a", "a")}, api.ErrOrder},
		"hates them not in order":     {[]api.Offer{hates(good, "b", "a")}, api.ErrOrder},
		"key before order":            {[]api.Offer{good, offer("", "g", 1)}, api.ErrName},
		"order before group":          {[]api.Offer{good, offer("a", "", 1)}, api.ErrOrder},
		"group before profits":        {[]api.Offer{offer("a", "")}, api.ErrName},
		"none before has":             {[]api.Offer{has(offer("a", "g"), keys(11)...)}, api.ErrNone},
		"how many before each":        {[]api.Offer{offer("a", "g", append(eleven, math.MaxInt)...)}, api.ErrLarge},
		"profits before has":          {[]api.Offer{has(offer("a", "g", math.MaxInt), "")}, api.ErrArg},
		"how many has before each":    {[]api.Offer{has(good, make([]string, 11)...)}, api.ErrLarge},
		"has before hates":            {[]api.Offer{hates(has(good, "b", "a"), "")}, api.ErrOrder},
		"has before too many hates":   {[]api.Offer{hates(has(good, ""), keys(11)...)}, api.ErrName},
		"how many hates before each":  {[]api.Offer{hates(good, make([]string, 11)...)}, api.ErrLarge},
		"has one by one":              {[]api.Offer{has(good, "b", "a", "")}, api.ErrOrder},
		"hates one by one":            {[]api.Offer{hates(good, "", "b", "a")}, api.ErrName},
		"the first one first":         {[]api.Offer{hates(good, "b", "a"), offer("", "", 1)}, api.ErrOrder},
		"all of the first one first":  {[]api.Offer{offer("b", "g"), offer("a", "", 1)}, api.ErrNone},
		"all of the second one first": {[]api.Offer{good, offer("b", "g", math.MinInt), offer("a", "g", 1)}, api.ErrArg},
	}
}

// P5.1: what is wrong with offers.
func TestCheckOffers(t *testing.T) {
	for name, x := range badOffers() {
		if e := shelf.CheckOffers(x.l); e != x.want {
			t.Errorf("%s: %d", name, e)
		}
	}
	name := strings.Repeat("k", api.MaxName)
	for _, l := range [][]api.Offer{
		nil, {}, example(), mixed(), manyOffers(api.MaxOffers),
		{hates(has(offer(name, name, -1_000_000, 1_000_000), name), name)},
		{offer("a", "g", 0), offer("a-", "g", 0), offer("aa", "g", 0)},
	} {
		if e := shelf.CheckOffers(l); e != api.OK {
			t.Errorf("%v: %d", l, e)
		}
	}
}

// P5.1: every function with offers returns their error before others, and with it nothing else.
func TestOffersFirst(t *testing.T) {
	q, r, x := make([]api.Quota, 11), api.Rack{Rows: 1, Columns: 1}, make([]string, 61)
	for name, bad := range badOffers() {
		if e := shelf.CheckQuotas(bad.l, q); e != bad.want {
			t.Errorf("%s: CheckQuotas %d", name, e)
		}
		if n, e := shelf.Worth(bad.l, []int{-1}); n != 0 || e != bad.want {
			t.Errorf("%s: Worth %d %d", name, n, e)
		}
		if ok, e := shelf.Fits(bad.l, q, []int{-1}); ok || e != bad.want {
			t.Errorf("%s: Fits %v %d", name, ok, e)
		}
		if c, n, e := shelf.Best(bad.l, q, -1); len(c) != 0 || n != 0 || e != bad.want {
			t.Errorf("%s: Best %v %d %d", name, c, n, e)
		}
		if n, e := shelf.Bound(bad.l, -1); n != 0 || e != bad.want {
			t.Errorf("%s: Bound %d %d", name, n, e)
		}
		if e := shelf.CheckLayout(r, bad.l, x); e != bad.want {
			t.Errorf("%s: CheckLayout %d", name, e)
		}
		if l, e := shelf.Clashes(r, bad.l, x); len(l) != 0 || e != bad.want {
			t.Errorf("%s: Clashes %v %d", name, l, e)
		}
		if c, e := shelf.Counts(bad.l, x); len(c) != 0 || e != bad.want {
			t.Errorf("%s: Counts %v %d", name, c, e)
		}
		if y, e := shelf.Arrange(bad.l, x, []int{-1}); len(y) != 0 || e != bad.want {
			t.Errorf("%s: Arrange %v %d", name, y, e)
		}
		if y, n, e := shelf.Place(r, bad.l, x, []int{-1}); len(y) != 0 || n != 0 || e != bad.want {
			t.Errorf("%s: Place %v %d %d", name, y, n, e)
		}
	}
}

// P5.1: what is wrong with quotas; Fits and Best return this error before those of their own, and with it nothing else.
func TestCheckQuotas(t *testing.T) {
	eleven := slices.Repeat([]api.Quota{quota("", -1, -1)}, 11)
	for name, x := range map[string]struct {
		q    []api.Quota
		want api.Errno
	}{
		"too many":                {eleven, api.ErrLarge},
		"no group":                {[]api.Quota{quota("", 0, 1)}, api.ErrName},
		"a group that is no key":  {[]api.Quota{quota("a", 0, 1), quota("9", 0, 1)}, api.ErrName},
		"a long group":            {[]api.Quota{quota(strings.Repeat("k", 41), 0, 1)}, api.ErrName},
		"the same group":          {[]api.Quota{quota("a", 0, 1), quota("a", 0, 1)}, api.ErrOrder},
		"a lesser group":          {[]api.Quota{quota("b", 0, 1), quota("a", 0, 1)}, api.ErrOrder},
		"least below 0":           {[]api.Quota{quota("a", -1, 1)}, api.ErrArg},
		"the least least":         {[]api.Quota{quota("a", math.MinInt, 1)}, api.ErrArg},
		"least above most":        {[]api.Quota{quota("a", 2, 1)}, api.ErrArg},
		"the greatest least":      {[]api.Quota{quota("a", math.MaxInt, 60)}, api.ErrArg},
		"most too great":          {[]api.Quota{quota("a", 0, 61)}, api.ErrArg},
		"the greatest most":       {[]api.Quota{quota("a", 0, math.MaxInt)}, api.ErrArg},
		"both too great":          {[]api.Quota{quota("a", 61, 61)}, api.ErrArg},
		"most below 0":            {[]api.Quota{quota("a", 0, -1)}, api.ErrArg},
		"both below 0":            {[]api.Quota{quota("a", -2, -1)}, api.ErrArg},
		"name before order":       {[]api.Quota{quota("a", 0, 1), quota("", 0, 1)}, api.ErrName},
		"name before number":      {[]api.Quota{quota("A", 2, 1)}, api.ErrName},
		"order before number":     {[]api.Quota{quota("a", 0, 1), quota("a", 2, 1)}, api.ErrOrder},
		"the first one first":     {[]api.Quota{quota("a", 2, 1), quota("", 0, 1)}, api.ErrArg},
		"the second one is wrong": {[]api.Quota{quota("a", 0, 1), quota("b", 0, 61), quota("a", 0, 1)}, api.ErrArg},
	} {
		if e := shelf.CheckQuotas(example(), x.q); e != x.want {
			t.Errorf("%s: CheckQuotas %d", name, e)
		}
		if ok, e := shelf.Fits(example(), x.q, []int{-1}); ok || e != x.want {
			t.Errorf("%s: Fits %v %d", name, ok, e)
		}
		if c, n, e := shelf.Best(example(), x.q, -1); len(c) != 0 || n != 0 || e != x.want {
			t.Errorf("%s: Best %v %d %d", name, c, n, e)
		}
	}
	var ten []api.Quota
	for _, k := range keys(10) {
		ten = append(ten, quota(k, 0, 60))
	}
	for _, q := range [][]api.Quota{
		nil, {}, ten, {quota("a", 0, 0)}, {quota("a", 60, 60)}, {quota("a", 0, 60), quota("a-", 3, 5)}, {quota(strings.Repeat("k", 40), 1, 2)},
	} {
		if e := shelf.CheckQuotas(example(), q); e != api.OK {
			t.Errorf("%v: %d", q, e)
		}
		if e := shelf.CheckQuotas(nil, q); e != api.OK {
			t.Errorf("%v without offers: %d", q, e)
		}
	}
}

// badCounts is counts of the offers of mixed with their errors.
func badCounts() map[string]struct {
	counts []int
	want   api.Errno
} {
	type row = struct {
		counts []int
		want   api.Errno
	}
	return map[string]row{
		"none":                 {nil, api.ErrForm},
		"too few":              {[]int{0, 0, 0, 0}, api.ErrForm},
		"too many":             {[]int{0, 0, 0, 0, 0, 0}, api.ErrForm},
		"form before numbers":  {[]int{-1, -1, -1, -1}, api.ErrForm},
		"below 0":              {[]int{0, 0, -1, 0, 0}, api.ErrArg},
		"the least":            {[]int{math.MinInt, 0, 0, 0, 0}, api.ErrArg},
		"more than profits":    {[]int{0, 0, 3, 0, 0}, api.ErrArg},
		"more of the last one": {[]int{3, 4, 2, 2, 4}, api.ErrArg},
		"the greatest":         {[]int{0, 0, 0, 0, math.MaxInt}, api.ErrArg},
		"sums that overflow":   {[]int{math.MaxInt, math.MaxInt, 2, 0, 0}, api.ErrArg},
	}
}

// P5.2: what is wrong with counts; with it there is nothing else.
func TestBadCounts(t *testing.T) {
	x := make([]string, 8)
	for name, bad := range badCounts() {
		if n, e := shelf.Worth(mixed(), bad.counts); n != 0 || e != bad.want {
			t.Errorf("%s: Worth %d %d", name, n, e)
		}
		if ok, e := shelf.Fits(mixed(), nil, bad.counts); ok || e != bad.want {
			t.Errorf("%s: Fits %v %d", name, ok, e)
		}
		if y, e := shelf.Arrange(mixed(), x, bad.counts); len(y) != 0 || e != bad.want {
			t.Errorf("%s: Arrange %v %d", name, y, e)
		}
		if y, n, e := shelf.Place(api.Rack{Rows: 2, Columns: 4}, mixed(), x, bad.counts); len(y) != 0 || n != 0 || e != bad.want {
			t.Errorf("%s: Place %v %d %d", name, y, n, e)
		}
	}
}

// P5.2: what counts are worth.
func TestWorth(t *testing.T) {
	for _, x := range []struct {
		l      []api.Offer
		counts []int
		want   int
	}{
		{nil, nil, 0},
		{example(), []int{0, 0}, 0},
		{example(), []int{2, 1}, 15},
		{example(), []int{2, 2}, 16},
		{mixed(), []int{1, 0, 0, 0, 0}, 50},
		{mixed(), []int{0, 4, 0, 1, 2}, 105},
		{mixed(), []int{3, 4, 2, 2, 3}, 410},
		{[]api.Offer{offer("a", "g", slices.Repeat([]int{-1_000_000}, 10)...)}, []int{10}, -10_000_000},
	} {
		if n, e := shelf.Worth(x.l, x.counts); n != x.want || e != api.OK {
			t.Errorf("%v %v: %d %d, not %d", x.l, x.counts, n, e, x.want)
		}
	}
}

// P5.2: whether counts keep quotas.
func TestFits(t *testing.T) {
	for name, x := range map[string]struct {
		q      []api.Quota
		counts []int
		want   bool
	}{
		"no quota":               {nil, []int{3, 4, 2, 2, 3}, true},
		"a group together":       {[]api.Quota{quota("sweet", 4, 4)}, []int{3, 0, 1, 0, 0}, true},
		"too few":                {[]api.Quota{quota("sweet", 4, 5)}, []int{3, 4, 0, 2, 3}, false},
		"too many":               {[]api.Quota{quota("sweet", 0, 3)}, []int{3, 0, 1, 0, 0}, false},
		"as few as can be":       {[]api.Quota{quota("sweet", 4, 9)}, []int{3, 0, 1, 0, 0}, true},
		"as many as can be":      {[]api.Quota{quota("sweet", 0, 4)}, []int{3, 0, 1, 0, 0}, true},
		"the first one broken":   {[]api.Quota{quota("drink", 1, 2), quota("sweet", 0, 9)}, []int{1, 0, 1, 0, 0}, false},
		"the last one broken":    {[]api.Quota{quota("drink", 0, 2), quota("sweet", 3, 9)}, []int{1, 1, 1, 0, 1}, false},
		"both kept":              {[]api.Quota{quota("drink", 2, 2), quota("sweet", 2, 9)}, []int{1, 1, 1, 2, 1}, true},
		"of no offer, of none":   {[]api.Quota{quota("other", 0, 9)}, []int{1, 1, 1, 2, 1}, true},
		"of no offer, of some":   {[]api.Quota{quota("other", 1, 9)}, []int{1, 1, 1, 2, 1}, false},
		"none of a group":        {[]api.Quota{quota("salty", 0, 0)}, []int{3, 4, 2, 0, 3}, true},
		"some of a group that 0": {[]api.Quota{quota("salty", 0, 0)}, []int{0, 0, 0, 1, 0}, false},
	} {
		if ok, e := shelf.Fits(mixed(), x.q, x.counts); ok != x.want || e != api.OK {
			t.Errorf("%s: %v %d", name, ok, e)
		}
	}
	if ok, e := shelf.Fits(nil, []api.Quota{quota("a", 1, 1)}, nil); ok || e != api.OK {
		t.Error("without offers", ok, e)
	}
}

// P5.2: the greatest profits.
func TestBound(t *testing.T) {
	for _, x := range []struct {
		l           []api.Offer
		slots, want int
	}{
		{nil, 0, 0}, {nil, 60, 0}, {example(), 0, 0}, {example(), 1, 6}, {example(), 2, 11}, {example(), 3, 15}, {example(), 4, 16}, {example(), 60, 16},
		{mixed(), 2, 160}, {mixed(), 12, 425}, {mixed(), 13, 420}, {mixed(), 14, 410}, {mixed(), 15, 410},
		{[]api.Offer{offer("a", "g", -3, -1, -2)}, 2, -3},
	} {
		if n, e := shelf.Bound(x.l, x.slots); n != x.want || e != api.OK {
			t.Errorf("%v %d: %d %d, not %d", x.l, x.slots, n, e, x.want)
		}
	}
	for _, slots := range []int{math.MinInt, -1, 61, math.MaxInt} {
		if n, e := shelf.Bound(mixed(), slots); n != 0 || e != api.ErrArg {
			t.Errorf("%d: %d %d", slots, n, e)
		}
	}
}
