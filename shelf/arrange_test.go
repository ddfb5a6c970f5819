package shelf_test

import (
	"math/rand"
	"slices"
	"testing"

	"coilrack/api"
	"coilrack/shelf"
)

// P5.4: a layout changes as little as possible.
func TestArrange(t *testing.T) {
	for name, x := range map[string]struct {
		x      []string
		counts []int // of bar, can, jam, nut and tea
		want   []string
	}{
		"no slots":                    {nil, []int{0, 0, 0, 0, 0}, nil},
		"as it is":                    {layout("bar . can tea bar"), []int{2, 1, 0, 0, 1}, layout("bar . can tea bar")},
		"the first ones stay":         {layout("tea bar bar tea bar"), []int{2, 0, 0, 0, 1}, layout("tea bar bar . .")},
		"none stays":                  {layout("bar . can"), []int{0, 0, 0, 0, 0}, layout(". . .")},
		"empty slots are filled":      {layout(". . . ."), []int{1, 0, 0, 0, 2}, layout("bar tea tea .")},
		"by key":                      {layout(". . . . ."), []int{1, 1, 1, 1, 1}, layout("bar can jam nut tea")},
		"each as often as it lacks":   {layout("can . . . ."), []int{2, 3, 0, 0, 0}, layout("can bar bar can can")},
		"those that lose come first":  {layout(". bar . bar ."), []int{1, 0, 0, 0, 2}, layout("tea bar . tea .")},
		"then empty ones":             {layout(". bar . bar ."), []int{1, 0, 1, 0, 2}, layout("tea bar tea jam .")},
		"lose by slot, not by key":    {layout("tea . bar can ."), []int{0, 1, 2, 0, 0}, layout("jam . jam can .")},
		"what loses stays empty":      {layout("bar tea bar ."), []int{1, 0, 0, 0, 1}, layout("bar tea . .")},
		"a full rack":                 {layout("bar bar can can"), []int{1, 1, 1, 1, 0}, layout("bar jam can nut")},
		"one lacks, another one not":  {layout("can . can tea ."), []int{1, 1, 0, 0, 2}, layout("can tea bar tea .")},
		"clashes are not looked at":   {layout(". ."), []int{1, 0, 1, 0, 0}, layout("bar jam")},
		"as many as it can have":      {layout("nut nut nut ."), []int{3, 0, 0, 0, 0}, layout("bar bar bar .")},
		"more than it can have, less": {layout("nut nut nut ."), []int{0, 0, 0, 2, 1}, layout("nut nut tea .")},
	} {
		if y, e := shelf.Arrange(mixed(), x.x, x.counts); !slices.Equal(y, x.want) || e != api.OK {
			t.Errorf("%s: %v %d", name, y, e)
		}
	}
	if y, e := shelf.Arrange(nil, layout(". ."), nil); !slices.Equal(y, layout(". .")) || e != api.OK {
		t.Error("without offers", y, e)
	}
}

// P5.4: more counts than slots.
func TestFull(t *testing.T) {
	for _, x := range []struct {
		r      api.Rack
		x      []string
		counts []int
		want   api.Errno
	}{
		{rack(1, 4), layout(". . . ."), []int{1, 1, 0, 0, 2}, api.OK},
		{rack(1, 4), layout(". . . ."), []int{1, 1, 0, 0, 3}, api.ErrFull},
		{rack(2, 2), layout("tea tea tea ."), []int{3, 1, 0, 0, 0}, api.OK},
		{rack(2, 2), layout("tea tea tea ."), []int{3, 2, 0, 0, 0}, api.ErrFull},
		{rack(1, 1), layout("."), []int{1, 0, 0, 0, 1}, api.ErrFull},
		{rack(1, 1), layout("."), []int{1, 0, 0, 0, 4}, api.ErrArg}, // before ErrFull
	} {
		if y, e := shelf.Arrange(mixed(), x.x, x.counts); e != x.want || (e == api.OK) != (len(y) == len(x.x)) || e != api.OK && len(y) != 0 {
			t.Errorf("%v: Arrange %v %d", x.counts, y, e)
		}
		if y, n, e := shelf.Place(x.r, mixed(), x.x, x.counts); e != x.want || (e == api.OK) != (len(y) == len(x.x)) || e != api.OK && n+len(y) != 0 {
			t.Errorf("%v: Place %v %d %d", x.counts, y, n, e)
		}
	}
	if y, e := shelf.Arrange(mixed(), nil, []int{1, 0, 0, 0, 0}); len(y) != 0 || e != api.ErrFull {
		t.Error(y, e)
	}
}

// eachLayout calls f with all layouts with these counts, from the least list on.
func eachLayout(l []api.Offer, slots int, counts []int, f func(y []string)) {
	left := slices.Concat([]int{slots - sum(counts)}, counts)
	var add func(y []string)
	add = func(y []string) {
		if len(y) == slots {
			f(y)
			return
		}
		for i, n := range left {
			key := ""
			if i > 0 {
				key = l[i-1].Key
			}
			if n > 0 {
				left[i]--
				add(append(y[:len(y):len(y)], key))
				left[i]++
			}
		}
	}
	add(nil)
}

// differing is in how many slots two layouts differ.
func differing(a, b []string) int {
	n := 0
	for i := range a {
		if a[i] != b[i] {
			n++
		}
	}
	return n
}

// someCounts makes counts of offers that have room in so many slots.
func someCounts(r *rand.Rand, l []api.Offer, slots int) []int {
	counts := make([]int, len(l))
	for i, o := range l {
		counts[i] = min(r.Intn(len(o.Profits)+1), slots)
		slots -= counts[i]
	}
	return counts
}

// P5.4: Arrange has the counts, and no other layout with them differs less.
func TestArrangeOfAll(t *testing.T) {
	r := rand.New(rand.NewSource(4))
	for range 600 {
		l, slots := someOffers(r, 5), r.Intn(7)
		x, counts := someLayout(r, l, slots), someCounts(r, l, slots)
		y, e := shelf.Arrange(l, x, counts)
		if e != api.OK {
			t.Fatal(l, x, counts, e)
		}
		if c, e := shelf.Counts(l, y); !slices.Equal(c, counts) || e != api.OK {
			t.Fatal(l, x, counts, y, c, e)
		}
		eachLayout(l, slots, counts, func(z []string) {
			if differing(x, z) < differing(x, y) {
				t.Fatalf("%v %v %v: %v, not %v", l, x, counts, y, z)
			}
		})
	}
}

// P5.4: a layout without clashes.
func TestPlace(t *testing.T) {
	for name, x := range map[string]struct {
		r      api.Rack
		x      []string
		counts []int // of bar, can, jam, nut and tea
		want   []string
		n      int
	}{
		"as it is":                   {rack(1, 3), layout("tea . bar"), []int{1, 0, 0, 0, 1}, layout("tea . bar"), 0},
		"nothing":                    {rack(1, 1), layout("."), []int{0, 0, 0, 0, 0}, layout("."), 0},
		"all go":                     {rack(1, 2), layout("bar jam"), []int{0, 0, 0, 0, 0}, layout(". ."), 2},
		"the least list":             {rack(1, 4), layout(". . . ."), []int{1, 0, 0, 0, 1}, layout(". . bar tea"), 2},
		"the least list of those":    {rack(1, 3), layout("tea tea ."), []int{1, 0, 0, 0, 1}, layout("bar tea ."), 1},
		"one between":                {rack(1, 3), layout("bar jam ."), []int{1, 0, 1, 0, 0}, layout("bar . jam"), 2},
		"a clash that was there":     {rack(1, 3), layout("bar jam tea"), []int{1, 0, 1, 0, 1}, layout("bar tea jam"), 2},
		"less change than less list": {rack(1, 3), layout("tea bar ."), []int{1, 0, 0, 0, 1}, layout("tea bar ."), 0},
		"in columns":                 {rack(2, 2), layout("bar . jam tea"), []int{1, 0, 1, 0, 1}, layout(". bar jam tea"), 2},
		"a column of one":            {rack(3, 1), layout("bar jam tea"), []int{1, 0, 1, 0, 1}, layout("bar tea jam"), 2},
		"eight slots":                {rack(2, 4), layout("bar jam can nut . . . ."), []int{1, 1, 1, 1, 0}, layout("bar can jam nut . . . ."), 2},
	} {
		if y, n, e := shelf.Place(x.r, mixed(), x.x, x.counts); !slices.Equal(y, x.want) || n != x.n || e != api.OK {
			t.Errorf("%s: %q %d %d", name, y, n, e)
		}
	}
	if y, n, e := shelf.Place(rack(1, 2), nil, layout(". ."), nil); !slices.Equal(y, layout(". .")) || n != 0 || e != api.OK {
		t.Error("without offers", y, n, e)
	}
}

// P5.4: when nothing can be placed.
func TestNoPlace(t *testing.T) {
	for name, x := range map[string]struct {
		r      api.Rack
		x      []string
		counts []int
		want   api.Errno
	}{
		"no way round":          {rack(1, 2), layout(". ."), []int{1, 0, 1, 0, 0}, api.ErrNone},
		"no way in a column":    {rack(2, 1), layout(". ."), []int{1, 0, 1, 0, 0}, api.ErrNone},
		"too full":              {rack(2, 2), layout("bar jam . ."), []int{3, 0, 1, 0, 0}, api.ErrNone},
		"too many slots":        {rack(3, 3), make([]string, 9), []int{0, 0, 0, 0, 0}, api.ErrLarge},
		"most slots":            {rack(6, 10), make([]string, 60), []int{0, 0, 0, 0, 0}, api.ErrLarge},
		"large before counts":   {rack(3, 3), make([]string, 9), nil, api.ErrLarge},
		"layout before large":   {rack(3, 3), slices.Repeat([]string{"x"}, 9), nil, api.ErrNone},
		"form before arguments": {rack(1, 2), layout(". ."), []int{-1}, api.ErrForm},
		"full before none":      {rack(1, 2), layout(". ."), []int{2, 0, 1, 0, 0}, api.ErrFull},
	} {
		if y, n, e := shelf.Place(x.r, mixed(), x.x, x.counts); len(y) != 0 || n != 0 || e != x.want {
			t.Errorf("%s: %v %d %d", name, y, n, e)
		}
	}
}

// P5.4: Place against all layouts.
func TestPlaceOfAll(t *testing.T) {
	r := rand.New(rand.NewSource(6))
	found, missing := 0, 0
	for range 1_000 {
		l, k := someOffers(r, 5), rack(1+r.Intn(3), 1+r.Intn(3))
		slots := k.Rows * k.Columns
		if slots > 6 {
			continue
		}
		x, counts := someLayout(r, l, slots), someCounts(r, l, slots)
		var want []string
		eachLayout(l, slots, counts, func(z []string) {
			if len(clashes(k, l, z)) == 0 && (want == nil || differing(x, z) < differing(x, want)) {
				want = z
			}
		})
		y, n, e := shelf.Place(k, l, x, counts)
		if want == nil {
			missing++
			if len(y) != 0 || n != 0 || e != api.ErrNone {
				t.Fatal(k, l, x, counts, y, n, e)
			}
			continue
		}
		found++
		if !slices.Equal(y, want) || n != differing(x, want) || e != api.OK {
			t.Fatalf("%v %v %v %v: %q %d %d, not %q", k, l, x, counts, y, n, e, want)
		}
		if z, _ := shelf.Arrange(l, x, counts); differing(x, z) > n {
			t.Fatalf("%v %v %v: %v differs more", l, x, counts, z)
		}
	}
	if found < 100 || missing < 20 {
		t.Error("only", found, missing)
	}
}

// P5.4: eight different products.
func TestLargestPlace(t *testing.T) {
	k := keys(8)
	var l []api.Offer
	for _, key := range k {
		l = append(l, has(offer(key, key, 1), key))
	}
	back := slices.Clone(k)
	slices.Reverse(back)
	ones := slices.Repeat([]int{1}, 8)
	for _, x := range []struct {
		from, want []string
	}{
		{back, back},
		{make([]string, 8), k},
		{slices.Repeat(k[7:], 8), k},
		{slices.Repeat(k[:1], 8), k},
		{slices.Concat(k[1:], k[1:2]), slices.Concat(k[:1], k[2:], k[1:2])},
	} {
		if y, n, e := shelf.Place(rack(2, 4), l, x.from, ones); !slices.Equal(y, x.want) || n != differing(x.from, y) || e != api.OK {
			t.Error(x.from, y, n, e)
		}
	}
	l[7].Hates = k[:7] // it touches one of them wherever it is
	for _, x := range [][]string{k, make([]string, 8)} {
		if y, n, e := shelf.Place(rack(2, 4), l, x, ones); len(y) != 0 || n != 0 || e != api.ErrNone {
			t.Error(y, n, e)
		}
	}
	ones[0], ones[1] = 0, 0 // it has a corner for itself
	want := slices.Concat([]string{""}, k[2:5], []string{k[7], ""}, k[5:7])
	if y, n, e := shelf.Place(rack(2, 4), l, make([]string, 8), ones); !slices.Equal(y, want) || n != 6 || e != api.OK {
		t.Error(y, n, e)
	}
}
