package shelf_test

import (
	"math"
	"reflect"
	"slices"
	"strings"
	"sync"
	"testing"

	"coilrack/api"
	"coilrack/shelf"
)

// Z1 and Z6: no int makes a function panic or overflow.
func TestAllInts(t *testing.T) {
	ints := []int{
		math.MinInt, math.MinInt + 1, -1_000_001, -1_000_000, -1, 0, 1, 2, 3, 10, 11, 60, 61, api.MaxDay, api.MaxDay + 1, api.MaxDay + 2, 1_000_000, 1_000_001,
		math.MaxInt - 1, math.MaxInt,
	}
	x, v := layout("a b"), []api.Version{version(3, "a b"), version(8, "b b")}
	for _, a := range ints {
		for _, b := range ints {
			l := []api.Offer{offer("a", "g", a, b)}
			if e := shelf.CheckOffers(l); (e == api.OK) != (min(a, b) >= -1_000_000 && max(a, b) <= 1_000_000) {
				t.Errorf("%v: %d", l, e)
			}
			q := []api.Quota{quota("salt", a, b)}
			if e := shelf.CheckQuotas(example(), q); (e == api.OK) != (0 <= a && a <= b && b <= 60) {
				t.Errorf("%v: %d", q, e)
			}
			if e := shelf.CheckRack(rack(a, b)); (e == api.OK) != (min(a, b) >= 1 && max(a, b) <= 10 && a*b <= 60) {
				t.Errorf("%d %d: %d", a, b, e)
			}
			if _, e := shelf.Stays(v, a, b); (e == api.OK) != (0 <= a && a <= b && b <= api.MaxDay+1) {
				t.Errorf("%d %d: Stays %d", a, b, e)
			}
			for _, m := range [][]api.Offer{l, example()} {
				shelf.Worth(m, []int{a, b})
				shelf.Fits(m, q, []int{a, b})
				shelf.Best(m, q, a)
				shelf.Best(m, nil, b)
				shelf.Bound(m, a)
				shelf.CheckLayout(rack(a, b), m, x)
				shelf.Clashes(rack(a, b), m, x)
				shelf.Counts(m, x)
				shelf.Arrange(m, x, []int{a, b})
				shelf.Place(rack(a, b), m, x, []int{1, 1})
				shelf.Place(rack(1, 2), m, x, []int{a, b})
			}
			shelf.Do(x, []api.Task{task(a, "a", "c"), task(b, "b", "c")})
			shelf.Print(rack(a, b), x)
			shelf.Parse(rack(a, b), "a b\n")
			shelf.CheckVersions([]api.Version{version(a, "a"), version(b, "b")})
			shelf.At(v, a)
		}
	}
}

// Z1: no string makes a function panic, and only keys are names.
func TestAllStrings(t *testing.T) {
	for _, s := range []string{"\x00", "\xff\xfe", "ä", "-", "9", "A", " a", "a ", "a\n", ".", strings.Repeat("k", 200_000)} {
		for name, e := range map[string]api.Errno{
			"key":     shelf.CheckOffers([]api.Offer{offer(s, "g", 1)}),
			"group":   shelf.CheckOffers([]api.Offer{offer("a", s, 1)}),
			"has":     shelf.CheckOffers([]api.Offer{has(offer("a", "g", 1), s)}),
			"hates":   shelf.CheckOffers([]api.Offer{hates(offer("a", "g", 1), s)}),
			"quota":   shelf.CheckQuotas(nil, []api.Quota{quota(s, 0, 1)}),
			"version": shelf.CheckVersions([]api.Version{{From: 3, Layout: []string{s}}}),
		} {
			if e != api.ErrName {
				t.Errorf("%.9q: %s %d", s, name, e)
			}
		}
		if e := shelf.CheckLayout(rack(1, 1), example(), []string{s}); e != api.ErrNone {
			t.Errorf("%.9q: layout %d", s, e)
		}
		if l, e := shelf.Tasks([]string{s}, []string{""}); len(l) != 0 || e != api.ErrName {
			t.Errorf("%.9q: Tasks %v %d", s, l, e)
		}
		if y, e := shelf.Do([]string{""}, []api.Task{task(0, "", s)}); len(y) != 0 || e != api.ErrName {
			t.Errorf("%.9q: Do %v %d", s, y, e)
		}
		if p, e := shelf.Print(rack(1, 1), []string{s}); p != "" || e != api.ErrName {
			t.Errorf("%.9q: Print %q %d", s, p, e)
		}
		shelf.Parse(rack(1, 1), s)
	}
}

// Z1: lists as long as they can be do not take long.
func TestLongLists(t *testing.T) {
	n := 200_000
	long := make([]string, n)
	o := offer("a", "g", 1)
	for name, e := range map[string]api.Errno{
		"offers":   shelf.CheckOffers(make([]api.Offer, n)),
		"profits":  shelf.CheckOffers([]api.Offer{offer("a", "g", make([]int, n)...)}),
		"has":      shelf.CheckOffers([]api.Offer{has(o, long...)}),
		"hates":    shelf.CheckOffers([]api.Offer{hates(o, long...)}),
		"quotas":   shelf.CheckQuotas(nil, make([]api.Quota, n)),
		"versions": shelf.CheckVersions(make([]api.Version, n)),
		"layouts":  shelf.CheckVersions([]api.Version{{Layout: long}}),
	} {
		if e != api.ErrLarge {
			t.Errorf("%s: %d", name, e)
		}
	}
	if _, e := shelf.Counts(example(), long); e != api.ErrLarge {
		t.Error(e)
	}
	if _, e := shelf.Changed(long, long); e != api.ErrLarge {
		t.Error(e)
	}
	if _, e := shelf.Changed(nil, long); e != api.ErrForm {
		t.Error(e)
	}
	if _, e := shelf.Worth(example(), make([]int, n)); e != api.ErrForm {
		t.Error(e)
	}
	if e := shelf.CheckLayout(rack(1, 1), example(), long); e != api.ErrForm {
		t.Error(e)
	}
	if _, e := shelf.Do(nil, make([]api.Task, n)); e != api.ErrArg {
		t.Error(e)
	}
	var l []api.Version
	for i := range 200 {
		x := slices.Repeat([]string{"a", "b"}, 30)
		l = append(l, api.Version{From: i, Layout: append(x[i%2:], x[:i%2]...)})
	}
	if s, e := shelf.Stays(l, 0, api.MaxDay+1); len(s) != 12_000 || s[11_999] != stay(59, "a", 199, api.MaxDay+1) || e != api.OK {
		t.Error(len(s), e)
	}
}

// Z1: functions without objects at once.
func TestAtOnce(t *testing.T) {
	l, x := mixed(), layout("bar jam tea .")
	var w sync.WaitGroup
	for range 8 {
		w.Go(func() {
			for range 50 {
				if c, n, e := shelf.Best(l, []api.Quota{quota("sweet", 1, 2)}, 4); !slices.Equal(c, []int{1, 1, 0, 2, 0}) || n != 190 || e != api.OK {
					t.Error(c, n, e)
				}
				if y, n, e := shelf.Place(rack(1, 4), l, x, []int{1, 0, 1, 0, 1}); !slices.Equal(y, layout(". jam tea bar")) || n != 2 || e != api.OK {
					t.Error(y, n, e)
				}
				if y, e := shelf.Arrange(l, x, []int{0, 1, 1, 0, 1}); !slices.Equal(y, layout("can jam tea .")) || e != api.OK {
					t.Error(y, e)
				}
			}
		})
	}
	w.Wait()
}

// Z2: arguments are not modified, and what is behind their length is not looked at.
func TestArguments(t *testing.T) {
	offers := func() []api.Offer { return append(mixed(), offer("?", "?", math.MinInt)) }
	all, quotas := offers(), []api.Quota{quota("drink", 0, 9), quota("", -1, -1)}
	for i := range all { // something wrong is behind each list
		all[i].Profits = append(all[i].Profits, math.MaxInt)[:len(all[i].Profits)]
		all[i].Has = append(all[i].Has, "?")[:len(all[i].Has)]
		all[i].Hates = append(all[i].Hates, "?")[:len(all[i].Hates)]
	}
	slots, other, numbers := layout("bar jam tea ?"), layout("tea jam bar ?"), []int{1, 0, 1, 0, 1, -1}
	l, q, x, y, counts := all[:5], quotas[:1], slots[:3], other[:3], numbers[:5]
	tasks := []api.Task{task(0, "bar", "tea"), task(2, "tea", "bar"), task(-1, "?", "?")}
	versions := []api.Version{{From: 3, Layout: x}, {From: 5, Layout: y}, version(0, "?")}
	for name, e := range map[string]func() api.Errno{
		"Worth":   func() api.Errno { _, e := shelf.Worth(l, counts); return e },
		"Fits":    func() api.Errno { _, e := shelf.Fits(l, q, counts); return e },
		"Best":    func() api.Errno { _, _, e := shelf.Best(l, q, 3); return e },
		"Bound":   func() api.Errno { _, e := shelf.Bound(l, 3); return e },
		"Clashes": func() api.Errno { _, e := shelf.Clashes(rack(1, 3), l, x); return e },
		"Counts":  func() api.Errno { _, e := shelf.Counts(l, x); return e },
		"Changed": func() api.Errno { _, e := shelf.Changed(x, y); return e },
		"Arrange": func() api.Errno { _, e := shelf.Arrange(l, x, counts); return e },
		"Place":   func() api.Errno { _, _, e := shelf.Place(rack(1, 3), l, x, counts); return e },
		"Tasks":   func() api.Errno { _, e := shelf.Tasks(x, y); return e },
		"Do":      func() api.Errno { _, e := shelf.Do(x, tasks[:2]); return e },
		"Print":   func() api.Errno { _, e := shelf.Print(rack(1, 3), x); return e },
		"Parse":   func() api.Errno { _, _, e := shelf.Parse(rack(1, 3), "bar . tea\n"); return e },
		"At":      func() api.Errno { _, e := shelf.At(versions[:2], 9); return e },
		"Stays":   func() api.Errno { _, e := shelf.Stays(versions[:2], 0, 9); return e },
	} {
		if e() != api.OK {
			t.Errorf("%s: %d", name, e())
		}
	}
	for i, o := range offers() {
		if p := all[i]; p.Key != o.Key || p.Group != o.Group || !slices.Equal(p.Profits, o.Profits) || !slices.Equal(p.Has, o.Has) || !slices.Equal(p.Hates, o.Hates) {
			t.Error(p)
		}
		if p := all[i].Profits; p[:len(p)+1][len(p)] != math.MaxInt {
			t.Error("behind", p)
		}
	}
	if !slices.Equal(quotas, []api.Quota{quota("drink", 0, 9), quota("", -1, -1)}) || !slices.Equal(numbers, []int{1, 0, 1, 0, 1, -1}) {
		t.Error(quotas, numbers)
	}
	if !slices.Equal(slots, layout("bar jam tea ?")) || !slices.Equal(other, layout("tea jam bar ?")) {
		t.Error(slots, other)
	}
	if !slices.Equal(tasks, []api.Task{task(0, "bar", "tea"), task(2, "tea", "bar"), task(-1, "?", "?")}) {
		t.Error(tasks)
	}
	if !reflect.DeepEqual(versions, []api.Version{version(3, "bar jam tea"), version(5, "tea jam bar"), version(0, "?")}) {
		t.Error(versions)
	}
}

// Z2: changing a result, or adding to it, changes nothing else.
func TestResultsAreNew(t *testing.T) {
	x, versions := layout("bar . tea"), []api.Version{version(3, "bar . tea"), version(5, "tea bar .")}
	counts := []int{1, 0, 0, 0, 1}
	for name, f := range map[string]func() []string{
		"Arrange": func() []string { y, _ := shelf.Arrange(mixed(), x, counts); return y },
		"Place":   func() []string { y, _, _ := shelf.Place(rack(1, 3), mixed(), x, counts); return y },
		"Do":      func() []string { y, _ := shelf.Do(x, nil); return y },
		"Parse":   func() []string { y, _, _ := shelf.Parse(rack(1, 3), "bar . tea\n"); return y },
		"At":      func() []string { y, _ := shelf.At(versions, 4); return y },
	} {
		y := f()
		for i := range y {
			y[i] = "scratch"
		}
		_ = append(y, "scratch")
		if !slices.Equal(x, layout("bar . tea")) || !slices.Equal(versions[0].Layout, layout("bar . tea")) {
			t.Fatal(name, x, versions)
		}
		if z := f(); !slices.Equal(z, layout("bar . tea")) {
			t.Error(name, z)
		}
	}
	for range 2 {
		c, _, _ := shelf.Best(mixed(), nil, 3)
		if !slices.Equal(c, []int{0, 1, 2, 0, 0}) {
			t.Error(c)
		}
		for i := range c {
			c[i] = -1
		}
	}
}

// Z7: the same arguments give the same results.
func TestSame(t *testing.T) {
	l := manyOffers(20)
	var q []api.Quota
	for i, k := range keys(10) {
		q = append(q, quota(k, i%2, 3+i))
	}
	for i := range l {
		l[i].Profits = []int{5, 5, 5} // many ways are worth as much
	}
	counts, worth, e := shelf.Best(l, q, 40)
	if e != api.OK {
		t.Fatal(e)
	}
	for range 20 {
		if c, n, e := shelf.Best(l, q, 40); !slices.Equal(c, counts) || n != worth || e != api.OK {
			t.Fatal(c, n, e)
		}
	}
}

// P5.2 to P5.6: one function takes what another one makes, at the bounds too.
func TestWholeValues(t *testing.T) {
	l, r := manyOffers(api.MaxOffers), rack(6, 10)
	counts, _, e := shelf.Best(l, nil, api.MaxRackSlots)
	if e != api.OK {
		t.Fatal(e)
	}
	x, e := shelf.Arrange(l, make([]string, api.MaxRackSlots), counts)
	if e != api.OK || shelf.CheckLayout(r, l, x) != api.OK {
		t.Fatal(x, e)
	}
	if c, e := shelf.Counts(l, x); !slices.Equal(c, counts) || e != api.OK {
		t.Error(c, e)
	}
	text, e := shelf.Print(r, x)
	if e != api.OK {
		t.Fatal(e)
	}
	if y, _, e := shelf.Parse(r, text); !slices.Equal(y, x) || e != api.OK {
		t.Error(y, e)
	}
	tasks, e := shelf.Tasks(make([]string, api.MaxRackSlots), x)
	if e != api.OK || len(tasks) != api.MaxRackSlots {
		t.Error(tasks, e)
	}
	y, e := shelf.At([]api.Version{{From: api.MaxDay, Layout: x}}, api.MaxDay)
	if e != api.OK || shelf.CheckLayout(r, l, y) != api.OK {
		t.Error(y, e)
	}
	if y, e = shelf.Do(y, nil); !slices.Equal(y, x) || e != api.OK {
		t.Error(y, e)
	}
	if _, e := shelf.Counts(l, append(x, "")); e != api.ErrLarge {
		t.Error(e)
	}
	many, e := shelf.Counts(l, slices.Repeat([]string{l[0].Key}, api.MaxFacings+1))
	if n, e2 := shelf.Worth(l, many); n != 0 || e != api.OK || e2 != api.ErrArg {
		t.Error(many, n, e, e2)
	}
}
