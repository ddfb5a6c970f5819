package shelf_test

import (
	"math"
	"math/rand"
	"slices"
	"strings"
	"testing"

	"coilrack/api"
	"coilrack/shelf"
)

func rack(rows, columns int) api.Rack { return api.Rack{Rows: rows, Columns: columns} }

// layout makes a layout of the words of s, in which . is an empty slot.
func layout(s string) []string {
	l := strings.Fields(s)
	for i := range l {
		if l[i] == "." {
			l[i] = ""
		}
	}
	return l
}

// someLayout makes a layout of these offers.
func someLayout(r *rand.Rand, l []api.Offer, slots int) []string {
	x := make([]string, slots)
	for i := range x {
		if k := r.Intn(len(l) + 1); k < len(l) {
			x[i] = l[k].Key
		}
	}
	return x
}

// badRacks is racks with their errors.
func badRacks() map[api.Rack]api.Errno {
	return map[api.Rack]api.Errno{
		rack(0, 1): api.ErrArg, rack(1, 0): api.ErrArg, rack(-1, -1): api.ErrArg, rack(11, 1): api.ErrArg, rack(1, 11): api.ErrArg,
		rack(math.MinInt, 1): api.ErrArg, rack(math.MaxInt, math.MaxInt): api.ErrArg, rack(10, math.MaxInt): api.ErrArg, rack(11, 10): api.ErrArg,
		rack(7, 9): api.ErrLarge, rack(9, 7): api.ErrLarge, rack(10, 10): api.ErrLarge, rack(10, 7): api.ErrLarge,
	}
}

// P5.3: what is wrong with a rack; all functions with a rack return it before others.
func TestCheckRack(t *testing.T) {
	bad, x := make([]api.Offer, 31), []string{"?"}
	for r, want := range badRacks() {
		if e := shelf.CheckRack(r); e != want {
			t.Errorf("%v: %d", r, e)
		}
		if e := shelf.CheckLayout(r, bad, x); e != want {
			t.Errorf("%v: CheckLayout %d", r, e)
		}
		if l, e := shelf.Clashes(r, bad, x); len(l) != 0 || e != want {
			t.Errorf("%v: Clashes %v %d", r, l, e)
		}
		if y, n, e := shelf.Place(r, bad, x, nil); len(y) != 0 || n != 0 || e != want {
			t.Errorf("%v: Place %v %d %d", r, y, n, e)
		}
		if s, e := shelf.Print(r, x); s != "" || e != want {
			t.Errorf("%v: Print %q %d", r, s, e)
		}
		if y, n, e := shelf.Parse(r, "?"+strings.Repeat("x", api.MaxText)); len(y) != 0 || n != 0 || e != want {
			t.Errorf("%v: Parse %v %d %d", r, y, n, e)
		}
	}
	for _, r := range []api.Rack{rack(1, 1), rack(1, 10), rack(10, 1), rack(6, 10), rack(10, 6), rack(7, 8)} {
		if e := shelf.CheckRack(r); e != api.OK {
			t.Errorf("%v: %d", r, e)
		}
	}
}

// P5.3: what is wrong with a layout; all functions with one of a rack return it, and with it nothing else.
func TestCheckLayout(t *testing.T) {
	for name, x := range map[string]struct {
		r    api.Rack
		x    []string
		want api.Errno
	}{
		"no slots":            {rack(1, 1), nil, api.ErrForm},
		"one too few":         {rack(2, 3), layout("bar . can . tea"), api.ErrForm},
		"one too many":        {rack(2, 3), layout("bar . can . tea . ."), api.ErrForm},
		"form before names":   {rack(1, 2), []string{"x"}, api.ErrForm},
		"what is not offered": {rack(2, 3), layout("bar . can . tea cola"), api.ErrNone},
		"no key":              {rack(2, 3), []string{"", "", "", "", "", "."}, api.ErrNone},
		"another case":        {rack(1, 1), []string{"Bar"}, api.ErrNone},
		"a blank":             {rack(1, 1), []string{" "}, api.ErrNone},
		"the beginning of it": {rack(1, 1), []string{"ba"}, api.ErrNone},
	} {
		if e := shelf.CheckLayout(x.r, mixed(), x.x); e != x.want {
			t.Errorf("%s: CheckLayout %d", name, e)
		}
		if l, e := shelf.Clashes(x.r, mixed(), x.x); len(l) != 0 || e != x.want {
			t.Errorf("%s: Clashes %v %d", name, l, e)
		}
		if y, n, e := shelf.Place(x.r, mixed(), x.x, nil); len(y) != 0 || n != 0 || e != x.want {
			t.Errorf("%s: Place %v %d %d", name, y, n, e)
		}
	}
	for r, x := range map[api.Rack][]string{
		rack(1, 1): {""}, rack(2, 3): layout("bar . can . tea bar"), rack(3, 2): layout("bar bar bar bar bar bar"), rack(6, 10): make([]string, 60),
	} {
		if e := shelf.CheckLayout(r, mixed(), x); e != api.OK {
			t.Errorf("%v: %d", x, e)
		}
	}
	if e := shelf.CheckLayout(rack(1, 2), nil, layout(". .")); e != api.OK {
		t.Error("without offers", e)
	}
	if e := shelf.CheckLayout(rack(1, 2), nil, layout(". a")); e != api.ErrNone {
		t.Error("without offers", e)
	}
}

// P5.3: which slots touch and must not.
func TestClashes(t *testing.T) {
	for name, x := range map[string]struct {
		r    api.Rack
		x    []string
		want []api.Touch
	}{
		"none":                    {rack(1, 2), layout("bar can"), nil},
		"empty":                   {rack(2, 2), layout(". . . ."), nil},
		"the second one hates":    {rack(1, 2), layout("bar jam"), []api.Touch{{A: 0, B: 1}}},
		"the first one hates":     {rack(1, 2), layout("jam bar"), []api.Touch{{A: 0, B: 1}}},
		"in a column":             {rack(2, 1), layout("jam bar"), []api.Touch{{A: 0, B: 1}}},
		"in a column of more":     {rack(2, 2), layout(". can . nut"), []api.Touch{{A: 1, B: 3}}},
		"not aslant":              {rack(2, 2), layout("can . . nut"), nil},
		"not aslant, left":        {rack(2, 2), layout(". can nut ."), nil},
		"not round the end":       {rack(2, 2), layout(". bar jam ."), nil},
		"not over an empty slot":  {rack(1, 3), layout("bar . jam"), nil},
		"not two rows apart":      {rack(3, 1), layout("bar . jam"), nil},
		"all sides":               {rack(3, 3), layout(". bar . bar jam bar . bar ."), []api.Touch{{A: 1, B: 4}, {A: 3, B: 4}, {A: 4, B: 5}, {A: 4, B: 7}}},
		"by a, then by b":         {rack(2, 2), layout("jam bar bar jam"), []api.Touch{{A: 0, B: 1}, {A: 0, B: 2}, {A: 1, B: 3}, {A: 2, B: 3}}},
		"the last ones of a rack": {rack(2, 3), layout(". . . . bar jam"), []api.Touch{{A: 4, B: 5}}},
		"several kinds":           {rack(2, 3), layout("can nut tea jam bar jam"), []api.Touch{{A: 0, B: 1}, {A: 3, B: 4}, {A: 4, B: 5}}},
	} {
		if l, e := shelf.Clashes(x.r, mixed(), x.x); !slices.Equal(l, x.want) || e != api.OK {
			t.Errorf("%s: %v %d", name, l, e)
		}
	}
	itself := []api.Offer{hates(has(offer("a", "g", 1), "egg", "nut"), "milk", "nut")}
	if l, e := shelf.Clashes(rack(1, 2), itself, layout("a a")); !slices.Equal(l, []api.Touch{{A: 0, B: 1}}) || e != api.OK {
		t.Error("itself", l, e)
	}
}

// apart is how far two slots of a rack are apart, along rows and columns.
func apart(r api.Rack, a, b int) int {
	d := func(m, n int) int { return max(m-n, n-m) }
	return d(a/r.Columns, b/r.Columns) + d(a%r.Columns, b%r.Columns)
}

// mustNot reports whether two products must not touch.
func mustNot(l []api.Offer, a, b string) bool {
	for _, o := range l {
		for _, p := range l {
			for _, s := range o.Hates {
				if slices.Contains(p.Has, s) && (o.Key == a && p.Key == b || o.Key == b && p.Key == a) {
					return true
				}
			}
		}
	}
	return false
}

// clashes looks at all pairs of slots.
func clashes(r api.Rack, l []api.Offer, x []string) []api.Touch {
	var found []api.Touch
	for a := range x {
		for b := range x {
			if a < b && apart(r, a, b) == 1 && mustNot(l, x[a], x[b]) {
				found = append(found, api.Touch{A: a, B: b})
			}
		}
	}
	return found
}

// P5.3: Clashes against all pairs of slots.
func TestClashesOfSome(t *testing.T) {
	r := rand.New(rand.NewSource(3))
	for range 500 {
		l, k := someOffers(r, 6), rack(1+r.Intn(4), 1+r.Intn(4))
		x := someLayout(r, l, k.Rows*k.Columns)
		want := clashes(k, l, x)
		if c, e := shelf.Clashes(k, l, x); !slices.Equal(c, want) || e != api.OK {
			t.Fatalf("%v %v %v: %v %d, not %v", k, l, x, c, e, want)
		}
	}
}

// P5.3: how many slots each offer has.
func TestCountsOfLayout(t *testing.T) {
	for _, x := range []struct {
		x    []string
		want []int
	}{
		{nil, []int{0, 0, 0, 0, 0}},
		{layout(". ."), []int{0, 0, 0, 0, 0}},
		{layout("bar . tea bar can"), []int{2, 1, 0, 0, 1}},
		{slices.Repeat([]string{"nut"}, 60), []int{0, 0, 0, 60, 0}}, // more than it can have
	} {
		if c, e := shelf.Counts(mixed(), x.x); !slices.Equal(c, x.want) || e != api.OK {
			t.Errorf("%v: %v %d", x.x, c, e)
		}
	}
	if c, e := shelf.Counts(nil, layout(". .")); len(c) != 0 || e != api.OK {
		t.Error("without offers", c, e)
	}
}

// P5.3: what is wrong with a layout of any rack; Counts and Arrange return it, and with it nothing else.
func TestBadLayouts(t *testing.T) {
	for name, x := range map[string]struct {
		x    []string
		want api.Errno
	}{
		"too many slots":          {make([]string, 61), api.ErrLarge},
		"too many, before others": {slices.Repeat([]string{"?"}, 61), api.ErrLarge},
		"what is not offered":     {layout("bar . cola"), api.ErrNone},
		"no key":                  {[]string{"."}, api.ErrNone},
	} {
		if c, e := shelf.Counts(mixed(), x.x); len(c) != 0 || e != x.want {
			t.Errorf("%s: Counts %v %d", name, c, e)
		}
		if y, e := shelf.Arrange(mixed(), x.x, []int{-1}); len(y) != 0 || e != x.want {
			t.Errorf("%s: Arrange %v %d", name, y, e)
		}
	}
}

// badPairs is pairs of layouts with the errors of Changed.
func badPairs() map[string]struct {
	a, b []string
	want api.Errno
} {
	type row = struct {
		a, b []string
		want api.Errno
	}
	return map[string]row{
		"too many slots":        {make([]string, 61), make([]string, 61), api.ErrLarge},
		"too many before form":  {make([]string, 61), nil, api.ErrLarge},
		"one more":              {make([]string, 60), make([]string, 61), api.ErrForm},
		"one fewer":             {layout("a b"), layout("a"), api.ErrForm},
		"nothing and something": {nil, layout("."), api.ErrForm},
	}
}

// P5.3: at which slots layouts differ.
func TestChanged(t *testing.T) {
	for name, x := range badPairs() {
		if l, e := shelf.Changed(x.a, x.b); len(l) != 0 || e != x.want {
			t.Errorf("%s: %v %d", name, l, e)
		}
	}
	for _, x := range []struct {
		a, b []string
		want []int
	}{
		{nil, nil, nil},
		{layout("a"), layout("a"), nil},
		{layout("a b . ."), layout("a c . d"), []int{1, 3}},
		{layout("a b"), layout(". ."), []int{0, 1}},
		{[]string{"A", "?"}, []string{"A", "!"}, []int{1}}, // it does not ask for keys
		{make([]string, 60), append(make([]string, 59), "a"), []int{59}},
	} {
		if l, e := shelf.Changed(x.a, x.b); !slices.Equal(l, x.want) || e != api.OK {
			t.Errorf("%v %v: %v %d", x.a, x.b, l, e)
		}
	}
}
