package depot_test

import (
	"math"
	"math/rand"
	"reflect"
	"slices"
	"testing"

	"coilrack/api"
	"coilrack/depot"
)

// names makes n keys, sorted.
func names(n int) []string {
	var l []string
	for i := range n {
		l = append(l, string(rune('a'+i)))
	}
	return l
}

// wallet makes a wallet of the sites a, b, c ..
func wallet(used []int, rows ...[]int) api.Wallet {
	return api.Wallet{Sites: names(len(rows)), Rights: rows, Used: used}
}

// three is a wallet of three sites with the rights 70, 11 and 58.
func three() api.Wallet {
	return wallet([]int{20, 30, 1}, []int{100, 7, 11}, []int{5, 50, 13}, []int{3, 2, 40})
}

// even makes a wallet of n sites in which each site was paid, and used, this much.
func even(n, paid, used int) api.Wallet {
	w := api.Wallet{Sites: names(n), Used: slices.Repeat([]int{used}, n)}
	for i := range n {
		w.Rights = append(w.Rights, make([]int, n))
		w.Rights[i][i] = paid
	}
	return w
}

// changed is three after a change.
func changed(f func(w *api.Wallet)) api.Wallet {
	w := three()
	f(&w)
	return w
}

// badWallet is a wallet with something wrong.
type badWallet struct {
	w    api.Wallet
	want api.Errno
}

func badWallets() map[string]badWallet {
	most := api.MaxCents
	all := map[string]badWallet{
		"nothing":              {api.Wallet{}, api.ErrNone},
		"no sites":             {api.Wallet{Sites: []string{}, Rights: [][]int{{-1}}, Used: []int{-1}}, api.ErrNone},
		"too many sites":       {even(api.MaxKiosks+1, 5, 0), api.ErrLarge},
		"large before names":   {api.Wallet{Sites: make([]string, api.MaxKiosks+1)}, api.ErrLarge},
		"used is too much":     {changed(func(w *api.Wallet) { w.Used[0] = 91 }), api.ErrRule},
		"given is too much":    {changed(func(w *api.Wallet) { w.Rights[1][0] = 17 }), api.ErrRule},
		"the last one's":       {changed(func(w *api.Wallet) { w.Used[2] = 60 }), api.ErrRule},
		"used before paid":     {even(3, 5, 6), api.ErrRule},
		"used without any":     {wallet([]int{1}, []int{0}), api.ErrRule},
		"given without any":    {wallet([]int{0, 0}, []int{0, 1}, []int{0, 0}), api.ErrRule},
		"given around, unpaid": {wallet([]int{0, 0, 1}, []int{0, 9, 0}, []int{0, 0, 9}, []int{9, 0, 0}), api.ErrRule},
	}
	for name, sites := range map[string][]string{
		"a site without a name":     {"a", "", "c"},
		"a site that is no key":     {"a", "B", "c"},
		"the last one is no key":    {"a", "b", "c "},
		"name before order":         {"b", "A", "c"},
		"the name of the first one": {"", "b", "a"},
	} {
		all[name] = badWallet{changed(func(w *api.Wallet) { w.Sites = sites }), api.ErrName}
	}
	for name, sites := range map[string][]string{
		"equal sites":                {"a", "b", "b"},
		"falling sites":              {"b", "a", "c"},
		"the order of the first one": {"b", "a", ""},
	} {
		all[name] = badWallet{changed(func(w *api.Wallet) { w.Sites = sites }), api.ErrOrder}
	}
	for name, f := range map[string]func(w *api.Wallet){
		"no Rights":           func(w *api.Wallet) { w.Rights = nil },
		"too few Rights":      func(w *api.Wallet) { w.Rights = w.Rights[:2] },
		"too many Rights":     func(w *api.Wallet) { w.Rights = append(w.Rights, []int{0, 0, 0}) },
		"no Used":             func(w *api.Wallet) { w.Used = nil },
		"too few Used":        func(w *api.Wallet) { w.Used = w.Used[:2] },
		"too many Used":       func(w *api.Wallet) { w.Used = append(w.Used, 0) },
		"a list is missing":   func(w *api.Wallet) { w.Rights[1] = nil },
		"a list is too short": func(w *api.Wallet) { w.Rights[0] = w.Rights[0][:2] },
		"a list is too long":  func(w *api.Wallet) { w.Rights[2] = append(w.Rights[2], 0) },
		"form before numbers": func(w *api.Wallet) { w.Rights[0][0], w.Rights[2] = -1, nil },
		"a site too few":      func(w *api.Wallet) { w.Sites = w.Sites[:2] },
	} {
		all[name] = badWallet{changed(f), api.ErrForm}
	}
	for name, f := range map[string]func(w *api.Wallet){
		"paid below 0":              func(w *api.Wallet) { w.Rights[0][0] = -1 },
		"paid too much":             func(w *api.Wallet) { w.Rights[1][1] = most + 1 },
		"given below 0":             func(w *api.Wallet) { w.Rights[0][2] = -1 },
		"given too much":            func(w *api.Wallet) { w.Rights[2][0] = most + 1 },
		"used below 0":              func(w *api.Wallet) { w.Used[2] = -1 },
		"used too much":             func(w *api.Wallet) { w.Used[0] = most + 1 },
		"the least int":             func(w *api.Wallet) { w.Rights[2][1] = math.MinInt },
		"the greatest ints":         func(w *api.Wallet) { w.Rights[0] = []int{math.MaxInt, math.MaxInt, math.MaxInt} },
		"the least int is used":     func(w *api.Wallet) { w.Used[1] = math.MinInt },
		"the greatest int is used":  func(w *api.Wallet) { w.Used[1] = math.MaxInt },
		"numbers before the rights": func(w *api.Wallet) { w.Used[0], w.Used[2] = 99, -1 },
	} {
		all[name] = badWallet{changed(f), api.ErrArg}
	}
	all["order before form"] = badWallet{api.Wallet{Sites: []string{"b", "a"}}, api.ErrOrder}
	return all
}

// goodWallets is wallets with nothing wrong.
func goodWallets() map[string]api.Wallet {
	most := even(api.MaxKiosks, api.MaxCents, api.MaxCents)
	for i := range most.Rights {
		most.Rights[i] = slices.Repeat([]int{api.MaxCents}, api.MaxKiosks)
	}
	return map[string]api.Wallet{
		"three":             three(),
		"one":               wallet([]int{0}, []int{0}),
		"nothing is left":   changed(func(w *api.Wallet) { w.Used = []int{90, 41, 59} }),
		"as many as can be": even(api.MaxKiosks, api.MaxCents, 0),
		"as much as can be": most,
		"given around":      wallet([]int{0, 0, 0}, []int{0, 9, 0}, []int{0, 0, 9}, []int{9, 0, 0}), // nothing was paid, and all rights are 0
		"other names":       {Sites: []string{"a-1", "a0", "shop_2"}, Rights: three().Rights, Used: three().Used},
	}
}

// isNoWallet says that a result with an error is no wallet.
func isNoWallet(t *testing.T, name string, w api.Wallet, e, want api.Errno) {
	t.Helper()
	if !reflect.DeepEqual(w, api.Wallet{}) || e != want {
		t.Errorf("%s: %v %d, not %d", name, w, e, want)
	}
}

// isWallet says that a result is just this wallet.
func isWallet(t *testing.T, name string, w api.Wallet, e api.Errno, want api.Wallet) {
	t.Helper()
	if !reflect.DeepEqual(w, want) || e != api.OK {
		t.Errorf("%s: %v %d, not %v", name, w, e, want)
	}
}

// P8.1: what is wrong with a wallet.
func TestCheckWallet(t *testing.T) {
	for name, x := range badWallets() {
		if e := depot.CheckWallet(x.w); e != x.want {
			t.Errorf("%s: %d, not %d", name, e, x.want)
		}
	}
	for name, w := range goodWallets() {
		if e := depot.CheckWallet(w); e != api.OK {
			t.Errorf("%s: %d", name, e)
		}
	}
}

// P8.1: every function with a wallet returns its error first, and with it nothing else.
func TestWalletsFirst(t *testing.T) {
	for name, x := range badWallets() {
		w, e := depot.Credit(x.w, "none", -1)
		isNoWallet(t, name+": Credit", w, e, x.want)
		w, e = depot.Give(x.w, "none", "none", -1)
		isNoWallet(t, name+": Give", w, e, x.want)
		w, e = depot.Spend(x.w, "none", -1)
		isNoWallet(t, name+": Spend", w, e, x.want)
		if n, e := depot.Rights(x.w, "none"); n != 0 || e != x.want {
			t.Errorf("%s: Rights %d %d", name, n, e)
		}
		if n, e := depot.Balance(x.w); n != 0 || e != x.want {
			t.Errorf("%s: Balance %d %d", name, n, e)
		}
		if s, e := depot.Print(x.w); s != "" || e != x.want {
			t.Errorf("%s: Print %q %d", name, s, e)
		}
		for i, pair := range [][2]api.Wallet{{x.w, three()}, {three(), x.w}, {x.w, {}}, {x.w, even(2, 5, 0)}, {even(2, 5, 0), x.w}} {
			w, e := depot.Merge(pair[0], pair[1])
			isNoWallet(t, name+": Merge", w, e, x.want)
			if ok, e := depot.Knows(pair[0], pair[1]); ok || e != x.want {
				t.Errorf("%s: Knows %d %v %d", name, i, ok, e)
			}
		}
	}
}

// P8.1: Empty.
func TestEmpty(t *testing.T) {
	for name, sites := range map[string][]string{"one": {"a"}, "three": {"a-1", "a0", "b"}, "12": names(api.MaxKiosks)} {
		w, e := depot.Empty(sites)
		want := even(len(sites), 0, 0)
		want.Sites = sites
		isWallet(t, name, w, e, want)
		if n, e := depot.Balance(w); n != 0 || e != api.OK {
			t.Errorf("%s: %d %d", name, n, e)
		}
	}
	for name, x := range map[string]struct {
		sites []string
		want  api.Errno
	}{
		"nil":                {nil, api.ErrNone},
		"none":               {[]string{}, api.ErrNone},
		"13":                 {names(api.MaxKiosks + 1), api.ErrLarge},
		"large before names": {make([]string, api.MaxKiosks+1), api.ErrLarge},
		"no name":            {[]string{"a", ""}, api.ErrName},
		"no key":             {[]string{"a", "9"}, api.ErrName},
		"equal":              {[]string{"a", "a"}, api.ErrOrder},
		"falling":            {[]string{"a", "c", "b"}, api.ErrOrder},
		"name before order":  {[]string{"b", "A"}, api.ErrName},
		"order of the first": {[]string{"b", "a", ""}, api.ErrOrder},
	} {
		w, e := depot.Empty(x.sites)
		isNoWallet(t, name, w, e, x.want)
	}
}

// P8.1 and P8.2: Rights and Balance.
func TestRightsAndBalance(t *testing.T) {
	for name, x := range map[string]struct {
		w      api.Wallet
		rights []int
	}{
		"three":             {three(), []int{70, 11, 58}},
		"one":               {wallet([]int{4}, []int{9}), []int{5}},
		"nothing is left":   {changed(func(w *api.Wallet) { w.Used = []int{90, 41, 59} }), []int{0, 0, 0}},
		"only paid":         {even(2, 9, 0), []int{9, 9}},
		"given":             {wallet([]int{0, 0}, []int{9, 4}, []int{0, 0}), []int{5, 4}},
		"more than a limit": {wallet([]int{0, 0}, []int{api.MaxCents, 0}, []int{api.MaxCents, api.MaxCents}), []int{2 * api.MaxCents, 0}},
		"12 times a limit":  {even(12, api.MaxCents, 0), slices.Repeat([]int{api.MaxCents}, 12)},
	} {
		sum := 0
		for i, site := range x.w.Sites {
			if n, e := depot.Rights(x.w, site); n != x.rights[i] || e != api.OK {
				t.Errorf("%s: %s %d %d, not %d", name, site, n, e, x.rights[i])
			}
			sum += x.rights[i]
		}
		if n, e := depot.Balance(x.w); n != sum || e != api.OK {
			t.Errorf("%s: %d %d, not %d", name, n, e, sum)
		}
		for _, site := range []string{"", "none", "A", x.w.Sites[0] + " "} {
			if n, e := depot.Rights(x.w, site); n != 0 || e != api.ErrNone {
				t.Errorf("%s: %q %d %d", name, site, n, e)
			}
		}
	}
}

// P8.2: Credit.
func TestCredit(t *testing.T) {
	w, e := depot.Credit(three(), "b", 9)
	isWallet(t, "9", w, e, changed(func(w *api.Wallet) { w.Rights[1][1] = 59 }))
	w, e = depot.Credit(w, "c", 1)
	isWallet(t, "1", w, e, changed(func(w *api.Wallet) { w.Rights[1][1], w.Rights[2][2] = 59, 41 }))
	w, e = depot.Credit(three(), "a", api.MaxCents-100)
	full := changed(func(w *api.Wallet) { w.Rights[0][0] = api.MaxCents })
	isWallet(t, "as much as can be", w, e, full)
	for name, x := range map[string]struct {
		w     api.Wallet
		site  string
		cents int
		want  api.Errno
	}{
		"no site":             {three(), "d", 9, api.ErrNone},
		"no name":             {three(), "", 9, api.ErrNone},
		"site before cents":   {three(), "d", 0, api.ErrNone},
		"0":                   {three(), "a", 0, api.ErrArg},
		"below 0":             {three(), "a", -1, api.ErrArg},
		"the least int":       {three(), "a", math.MinInt, api.ErrArg},
		"too much":            {three(), "a", api.MaxCents + 1, api.ErrArg},
		"the greatest int":    {three(), "a", math.MaxInt, api.ErrArg},
		"one more than fits":  {three(), "a", api.MaxCents - 99, api.ErrFull},
		"as much as can be":   {three(), "a", api.MaxCents, api.ErrFull},
		"one into a full one": {full, "a", 1, api.ErrFull},
		"cents before full":   {full, "a", 0, api.ErrArg},
	} {
		w, e := depot.Credit(x.w, x.site, x.cents)
		isNoWallet(t, name, w, e, x.want)
	}
	w, e = depot.Credit(full, "b", api.MaxCents-50) // another site's number is another number
	isWallet(t, "both", w, e, changed(func(w *api.Wallet) { w.Rights[0][0], w.Rights[1][1] = api.MaxCents, api.MaxCents }))
}

// P8.2: Give.
func TestGive(t *testing.T) {
	w, e := depot.Give(three(), "a", "c", 9)
	isWallet(t, "9", w, e, changed(func(w *api.Wallet) { w.Rights[0][2] = 20 }))
	w, e = depot.Give(three(), "a", "b", 70)
	isWallet(t, "all", w, e, changed(func(w *api.Wallet) { w.Rights[0][1] = 77 }))
	w, e = depot.Give(three(), "b", "a", 1)
	isWallet(t, "1", w, e, changed(func(w *api.Wallet) { w.Rights[1][0] = 6 }))
	full := wallet([]int{0, 0}, []int{api.MaxCents, api.MaxCents - 5}, []int{api.MaxCents, api.MaxCents})
	w, e = depot.Give(full, "a", "b", 5)
	isWallet(t, "as much as can be", w, e, wallet([]int{0, 0}, []int{api.MaxCents, api.MaxCents}, []int{api.MaxCents, api.MaxCents}))
	for name, x := range map[string]struct {
		w        api.Wallet
		from, to string
		cents    int
		want     api.Errno
	}{
		"no from":            {three(), "d", "a", 9, api.ErrNone},
		"no to":              {three(), "a", "d", 9, api.ErrNone},
		"neither":            {three(), "d", "d", 9, api.ErrNone},
		"no names":           {three(), "", "", 9, api.ErrNone},
		"no to before cents": {three(), "a", "d", 0, api.ErrNone},
		"both are the same":  {three(), "a", "a", 9, api.ErrTwice},
		"same before cents":  {three(), "a", "a", 0, api.ErrTwice},
		"same before rights": {three(), "a", "a", 71, api.ErrTwice},
		"0":                  {three(), "a", "b", 0, api.ErrArg},
		"below 0":            {three(), "a", "b", -1, api.ErrArg},
		"the least int":      {three(), "a", "b", math.MinInt, api.ErrArg},
		"too much":           {three(), "a", "b", api.MaxCents + 1, api.ErrArg},
		"the greatest int":   {three(), "a", "b", math.MaxInt, api.ErrArg},
		"more than there is": {three(), "a", "b", 71, api.ErrRule},
		"of another site":    {three(), "b", "a", 12, api.ErrRule},
		"without any":        {even(2, 0, 0), "a", "b", 1, api.ErrRule},
		"one too much":       {full, "a", "b", 6, api.ErrFull},
		"rights before full": {wallet([]int{0, 0}, []int{api.MaxCents, api.MaxCents - 5}, []int{0, 0}), "a", "b", 6, api.ErrRule},
	} {
		w, e := depot.Give(x.w, x.from, x.to, x.cents)
		isNoWallet(t, name, w, e, x.want)
	}
}

// P8.2: Spend.
func TestSpend(t *testing.T) {
	w, e := depot.Spend(three(), "a", 9)
	isWallet(t, "9", w, e, changed(func(w *api.Wallet) { w.Used[0] = 29 }))
	w, e = depot.Spend(w, "c", 58)
	isWallet(t, "all", w, e, changed(func(w *api.Wallet) { w.Used[0], w.Used[2] = 29, 59 }))
	w, e = depot.Spend(three(), "b", 1)
	isWallet(t, "1", w, e, changed(func(w *api.Wallet) { w.Used[1] = 31 }))
	full := wallet([]int{api.MaxCents - 5, 0}, []int{api.MaxCents, 0}, []int{api.MaxCents, api.MaxCents})
	w, e = depot.Spend(full, "a", 5)
	isWallet(t, "as much as can be", w, e, wallet([]int{api.MaxCents, 0}, []int{api.MaxCents, 0}, []int{api.MaxCents, api.MaxCents}))
	for name, x := range map[string]struct {
		w     api.Wallet
		site  string
		cents int
		want  api.Errno
	}{
		"no site":            {three(), "d", 9, api.ErrNone},
		"no name":            {three(), "", 9, api.ErrNone},
		"site before cents":  {three(), "d", 0, api.ErrNone},
		"0":                  {three(), "a", 0, api.ErrArg},
		"below 0":            {three(), "a", -1, api.ErrArg},
		"the least int":      {three(), "a", math.MinInt, api.ErrArg},
		"too much":           {three(), "a", api.MaxCents + 1, api.ErrArg},
		"the greatest int":   {three(), "a", math.MaxInt, api.ErrArg},
		"more than there is": {three(), "a", 71, api.ErrRule},
		"of another site":    {three(), "b", 12, api.ErrRule},
		"without any":        {even(2, 0, 0), "a", 1, api.ErrRule},
		"one too much":       {full, "a", 6, api.ErrFull},
		"rights before full": {wallet([]int{api.MaxCents - 5}, []int{api.MaxCents}), "a", 6, api.ErrRule},
	} {
		w, e := depot.Spend(x.w, x.site, x.cents)
		isNoWallet(t, name, w, e, x.want)
	}
}

// P8.2: Merge and Knows.
func TestMergeAndKnows(t *testing.T) {
	a := changed(func(w *api.Wallet) { w.Rights[0][0], w.Rights[1][2], w.Used[2] = 101, 14, 2 })
	b := changed(func(w *api.Wallet) { w.Rights[0][1], w.Rights[2][2], w.Used[0] = 8, 41, 21 })
	both := wallet([]int{21, 30, 2}, []int{101, 8, 11}, []int{5, 50, 14}, []int{3, 2, 41})
	for name, x := range map[string]struct {
		a, b, both api.Wallet
		ab, ba     bool
	}{
		"neither":        {a, b, both, false, false},
		"the same":       {three(), three(), three(), true, true},
		"one has more":   {a, three(), a, true, false},
		"one has all":    {both, b, both, true, false},
		"nothing at all": {even(1, 0, 0), even(1, 0, 0), even(1, 0, 0), true, true},
		"other used":     {changed(func(w *api.Wallet) { w.Used[2] = 2 }), three(), changed(func(w *api.Wallet) { w.Used[2] = 2 }), true, false},
		"other given":    {changed(func(w *api.Wallet) { w.Rights[2][0] = 4 }), three(), changed(func(w *api.Wallet) { w.Rights[2][0] = 4 }), true, false},
	} {
		w, e := depot.Merge(x.a, x.b)
		isWallet(t, name, w, e, x.both)
		w, e = depot.Merge(x.b, x.a)
		isWallet(t, name, w, e, x.both)
		if ok, e := depot.Knows(x.a, x.b); ok != x.ab || e != api.OK {
			t.Errorf("%s: %v %d", name, ok, e)
		}
		if ok, e := depot.Knows(x.b, x.a); ok != x.ba || e != api.OK {
			t.Errorf("%s: %v %d", name, ok, e)
		}
	}
}

// P8.2: wallets that have not the same sites, or of which one spent what the other one does not know of.
func TestMergeErrors(t *testing.T) {
	named := three()
	named.Sites = []string{"a", "b", "d"}
	for name, b := range map[string]api.Wallet{"another name": named, "fewer sites": even(2, 5, 0), "more sites": even(4, 5, 0)} {
		for _, pair := range [][2]api.Wallet{{three(), b}, {b, three()}} {
			w, e := depot.Merge(pair[0], pair[1])
			isNoWallet(t, name, w, e, api.ErrForm)
			if ok, e := depot.Knows(pair[0], pair[1]); ok || e != api.ErrForm {
				t.Errorf("%s: %v %d", name, ok, e)
			}
		}
	}
	spent := wallet([]int{9, 0}, []int{9, 0}, []int{0, 0}) // both are of site a, which did not know of itself
	given := wallet([]int{0, 0}, []int{9, 1}, []int{0, 0})
	for _, pair := range [][2]api.Wallet{{spent, given}, {given, spent}} {
		w, e := depot.Merge(pair[0], pair[1])
		isNoWallet(t, "more than was paid", w, e, api.ErrRule)
		if ok, e := depot.Knows(pair[0], pair[1]); ok || e != api.OK {
			t.Error(ok, e)
		}
	}
	w, e := depot.Merge(even(2, 5, 5), even(2, 6, 0))
	isWallet(t, "as much as was paid", w, e, even(2, 6, 5))
}

// The example of the chapter.
func TestExample(t *testing.T) {
	start, e := depot.Empty([]string{"a", "b"})
	if e != api.OK {
		t.Fatal(e)
	}
	a, e := depot.Credit(start, "a", 100)
	if e != api.OK {
		t.Fatal(e)
	}
	if a, e = depot.Give(a, "a", "b", 40); e != api.OK {
		t.Fatal(e)
	}
	w, e := depot.Spend(start, "b", 1)
	isNoWallet(t, "before the merge", w, e, api.ErrRule)
	b, e := depot.Merge(start, a)
	if n, f := depot.Rights(b, "b"); n != 40 || e != api.OK || f != api.OK {
		t.Error(n, e, f)
	}
	w, e = depot.Spend(b, "b", 41)
	isNoWallet(t, "too much", w, e, api.ErrRule)
	w, e = depot.Spend(b, "b", 40)
	isWallet(t, "all", w, e, wallet([]int{0, 40}, []int{100, 40}, []int{0, 0}))
}

// event is something that a site does for itself: what is paid in, or given to another site, or, if to is below 0, used.
type event struct{ to, cents int }

// market is kiosks that keep what they did as events, and how many events of each site they know of.
type market struct {
	events [][]event // by site
	known  [][]int   // by kiosk, then by site
}

func newMarket(sites int) *market {
	m := &market{events: make([][]event, sites)}
	for range sites {
		m.known = append(m.known, make([]int, sites))
	}
	return m
}

// wallet is the wallet of what a kiosk knows.
func (m *market) wallet(known []int) api.Wallet {
	w := even(len(m.events), 0, 0)
	for site, n := range known {
		for _, x := range m.events[site][:n] {
			if x.to < 0 {
				w.Used[site] += x.cents
			} else {
				w.Rights[site][x.to] += x.cents
			}
		}
	}
	return w
}

// rights is what a kiosk that knows this has for itself.
func (m *market) rights(site int, known []int) int {
	sum := 0
	for other, n := range known {
		for _, x := range m.events[other][:n] {
			switch {
			case x.to == site:
				sum += x.cents
			case other == site:
				sum -= x.cents
			}
		}
	}
	return sum
}

// do adds an event of a site.
func (m *market) do(site int, x event) {
	m.events[site] = append(m.events[site], x)
	m.known[site][site]++
}

// act lets a site do something in its copy of the wallet, and in the market; false if it has not the rights.
func (m *market) act(t *testing.T, r *rand.Rand, w api.Wallet, site int) (api.Wallet, bool) {
	t.Helper()
	cents := 1 + r.Intn(40)
	x := event{to: site, cents: cents}
	var next api.Wallet
	var e api.Errno
	switch r.Intn(4) {
	case 0:
		next, e = depot.Credit(w, w.Sites[site], cents)
	case 1, 2:
		x.to = -1
		next, e = depot.Spend(w, w.Sites[site], cents)
	default:
		x.to = (site + 1 + r.Intn(len(w.Sites))) % len(w.Sites)
		next, e = depot.Give(w, w.Sites[site], w.Sites[x.to], cents)
		if x.to == site {
			isNoWallet(t, "to itself", next, e, api.ErrTwice)
			return w, false
		}
	}
	if x.to != site && m.rights(site, m.known[site]) < cents {
		isNoWallet(t, "too much", next, e, api.ErrRule)
		return w, false
	}
	m.do(site, x)
	isWallet(t, "known", next, e, m.wallet(m.known[site]))
	return next, true
}

// P8.2: kiosks that do what they can, and merge what they know at any time, in any order, also what is old.
func TestKiosks(t *testing.T) {
	r := rand.New(rand.NewSource(81))
	acted, refused := 0, 0
	for range 300 {
		n := 1 + r.Intn(5)
		m := newMarket(n)
		start, _ := depot.Empty(names(n))
		copies := slices.Repeat([]api.Wallet{start}, n)
		type letter struct {
			w     api.Wallet
			known []int
		}
		var post []letter // what was sent at some time, and can come at any time, and again
		for range 60 {
			i := r.Intn(n)
			switch r.Intn(3) {
			case 0:
				post = append(post, letter{copies[i], slices.Clone(m.known[i])})
			case 1:
				if len(post) > 0 {
					x := post[r.Intn(len(post))]
					knows := true
					for k := range n {
						knows = knows && m.known[i][k] >= x.known[k]
						m.known[i][k] = max(m.known[i][k], x.known[k])
					}
					if ok, e := depot.Knows(copies[i], x.w); ok != knows || e != api.OK {
						t.Fatal(ok, e, copies[i], x.w)
					}
					w, e := depot.Merge(copies[i], x.w)
					isWallet(t, "merged", w, e, m.wallet(m.known[i]))
					copies[i] = w
				}
			default:
				var ok bool
				if copies[i], ok = m.act(t, r, copies[i], i); ok {
					acted++
				} else {
					refused++
				}
			}
			if b, e := depot.Balance(copies[i]); b < 0 || e != api.OK {
				t.Fatal(b, e, copies[i])
			}
		}
		ends(t, r, m, copies)
		if t.Failed() {
			return
		}
	}
	if min(acted, refused) < 500 {
		t.Error(acted, refused)
	}
}

// ends lets all kiosks merge all copies, each in an order of its own: they all have the same in the end, and nothing is lost.
func ends(t *testing.T, r *rand.Rand, m *market, copies []api.Wallet) {
	t.Helper()
	var all []int
	paid, spent := 0, 0
	for site, l := range m.events {
		all = append(all, len(l))
		for _, x := range l {
			if x.to == site {
				paid += x.cents
			} else if x.to < 0 {
				spent += x.cents
			}
		}
	}
	want := m.wallet(all)
	for _, w := range copies {
		for _, i := range append(r.Perm(len(copies)), r.Intn(len(copies))) {
			merged, e := depot.Merge(w, copies[i])
			if e != api.OK {
				t.Fatal(e, w, copies[i])
			}
			w = merged
		}
		isWallet(t, "in the end", w, api.OK, want)
		if b, e := depot.Balance(w); b != paid-spent || b < 0 || e != api.OK {
			t.Error(b, e, paid, spent)
		}
	}
}

// someWallet makes a wallet of n sites with nothing wrong, in which most is the greatest number.
func someWallet(r *rand.Rand, n, most int) api.Wallet {
	w := even(n, 0, 0)
	for i := range n {
		for k := range n {
			w.Rights[i][k] = r.Intn(most + 1)
		}
		w.Used[i] = r.Intn(most + 1)
	}
	for i := range n { // what was paid is at least as much as a site needs
		for k := range n {
			if k != i {
				w.Rights[i][i] += w.Rights[i][k]
			}
		}
		w.Rights[i][i] += w.Used[i]
	}
	return w
}

// P8.2: Merge does not depend on the order, nor on how often; it is the least wallet that knows both.
func TestMergeInAnyOrder(t *testing.T) {
	r := rand.New(rand.NewSource(82))
	merge := func(a, b api.Wallet) api.Wallet {
		w, e := depot.Merge(a, b)
		if e != api.OK {
			return api.Wallet{}
		}
		return w
	}
	merged, knew := 0, 0
	for range 2_000 {
		n := 1 + r.Intn(3)
		a, b, c := someWallet(r, n, 3), someWallet(r, n, 3), someWallet(r, n, 3)
		ab := merge(a, b)
		if !reflect.DeepEqual(ab, merge(b, a)) || !reflect.DeepEqual(a, merge(a, a)) {
			t.Fatal(a, b)
		}
		if len(ab.Sites) == 0 {
			continue
		}
		merged++
		if !reflect.DeepEqual(ab, merge(ab, a)) || !reflect.DeepEqual(ab, merge(b, ab)) {
			t.Fatal(a, b)
		}
		if bc := merge(b, c); len(bc.Sites) > 0 && !reflect.DeepEqual(merge(ab, c), merge(a, bc)) {
			t.Fatal(a, b, c)
		}
		ok, e := depot.Knows(a, b)
		if ok != reflect.DeepEqual(ab, a) || e != api.OK {
			t.Fatal(a, b, ok, e)
		}
		if ok {
			knew++
		}
	}
	if min(merged, knew) < 20 {
		t.Error(merged, knew)
	}
}
