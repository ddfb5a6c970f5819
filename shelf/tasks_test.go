package shelf_test

import (
	"math"
	"math/rand"
	"slices"
	"strings"
	"testing"

	"coilrack/api"
	"coilrack/shelf"
)

func task(slot int, from, to string) api.Task { return api.Task{Slot: slot, From: from, To: to} }

// P5.5: what makes a layout of another one.
func TestTasks(t *testing.T) {
	for _, x := range []struct {
		a, b []string
		want []api.Task
	}{
		{nil, nil, nil},
		{layout("a b ."), layout("a b ."), nil},
		{layout("a b . c"), layout("a . d e"), []api.Task{task(1, "b", ""), task(2, "", "d"), task(3, "c", "e")}},
		{make([]string, 60), append(make([]string, 59), "a"), []api.Task{task(59, "", "a")}},
	} {
		if l, e := shelf.Tasks(x.a, x.b); !slices.Equal(l, x.want) || e != api.OK {
			t.Errorf("%v %v: %v %d", x.a, x.b, l, e)
		}
		if y, e := shelf.Do(x.a, x.want); !slices.Equal(y, x.b) || e != api.OK {
			t.Errorf("%v %v: %v %d", x.a, x.want, y, e)
		}
	}
	for name, x := range badPairs() {
		if l, e := shelf.Tasks(x.a, x.b); len(l) != 0 || e != x.want {
			t.Errorf("%s: %v %d", name, l, e)
		}
	}
	for name, x := range map[string]struct {
		a, b []string
		want api.Errno
	}{
		"a name of a":        {[]string{"", "."}, []string{"", ""}, api.ErrName},
		"a name of b":        {[]string{"", ""}, []string{"A", ""}, api.ErrName},
		"the same name":      {[]string{"a b"}, []string{"a b"}, api.ErrName},
		"a long name":        {[]string{""}, []string{strings.Repeat("k", 41)}, api.ErrName},
		"large before names": {slices.Repeat([]string{"?"}, 61), nil, api.ErrLarge},
		"form before names":  {[]string{"?"}, nil, api.ErrForm},
		"names of 40 bytes":  {[]string{strings.Repeat("k", 40)}, []string{strings.Repeat("k", 40)}, api.OK},
	} {
		if l, e := shelf.Tasks(x.a, x.b); len(l) != 0 || e != x.want {
			t.Errorf("%s: %v %d", name, l, e)
		}
	}
}

// P5.5: tasks are made.
func TestDo(t *testing.T) {
	for name, x := range map[string]struct {
		x    []string
		t    []api.Task
		want api.Errno
	}{
		"too many slots":         {make([]string, 61), nil, api.ErrLarge},
		"large before others":    {make([]string, 61), []api.Task{task(-1, "", "")}, api.ErrLarge},
		"no such slot":           {layout("a b"), []api.Task{task(2, "", "c")}, api.ErrArg},
		"no slots":               {nil, []api.Task{task(0, "", "c")}, api.ErrArg},
		"a slot below 0":         {layout("a b"), []api.Task{task(-1, "a", "c")}, api.ErrArg},
		"the least slot":         {layout("a b"), []api.Task{task(math.MinInt, "a", "c")}, api.ErrArg},
		"the greatest slot":      {layout("a b"), []api.Task{task(0, "a", "c"), task(math.MaxInt, "b", "c")}, api.ErrArg},
		"the same slot":          {layout("a b"), []api.Task{task(0, "a", "c"), task(0, "c", "d")}, api.ErrOrder},
		"a slot before":          {layout("a b"), []api.Task{task(1, "b", "c"), task(0, "a", "d")}, api.ErrOrder},
		"another one is there":   {layout("a b"), []api.Task{task(0, "b", "c")}, api.ErrConflict},
		"nothing is there":       {layout("a ."), []api.Task{task(1, "b", "c")}, api.ErrConflict},
		"something is there":     {layout("a b"), []api.Task{task(1, "", "c")}, api.ErrConflict},
		"nothing changes":        {layout("a b"), []api.Task{task(1, "b", "b")}, api.ErrForm},
		"empty stays empty":      {layout("a ."), []api.Task{task(1, "", "")}, api.ErrForm},
		"no key":                 {layout("a b"), []api.Task{task(1, "b", "B")}, api.ErrName},
		"a point":                {layout("a b"), []api.Task{task(1, "b", ".")}, api.ErrName},
		"slot before order":      {layout("a b"), []api.Task{task(1, "b", "c"), task(-1, "a", "d")}, api.ErrArg},
		"order before from":      {layout("a b"), []api.Task{task(1, "b", "c"), task(1, "c", "d")}, api.ErrOrder},
		"from before equal ones": {layout("a b"), []api.Task{task(1, "c", "c")}, api.ErrConflict},
		"from before to":         {layout("a b"), []api.Task{task(1, "c", "?")}, api.ErrConflict},
		"equal ones before to":   {[]string{"?"}, []api.Task{task(0, "?", "?")}, api.ErrForm},
		"the first one first":    {layout("a b"), []api.Task{task(0, "a", "?"), task(2, "", "c")}, api.ErrName},
		"the second one":         {layout("a b"), []api.Task{task(0, "a", "c"), task(1, "b", "b"), task(0, "", "")}, api.ErrForm},
	} {
		if y, e := shelf.Do(x.x, x.t); len(y) != 0 || e != x.want {
			t.Errorf("%s: %v %d", name, y, e)
		}
	}
	for name, x := range map[string]struct {
		x    []string
		t    []api.Task
		want []string
	}{
		"nothing to do":          {layout("a b"), nil, layout("a b")},
		"some":                   {layout("a b . d"), []api.Task{task(0, "a", "b"), task(2, "", "x"), task(3, "d", "")}, layout("b b x .")},
		"the last one of 60":     {make([]string, 60), []api.Task{task(59, "", "a")}, append(make([]string, 59), "a")},
		"what is there is taken": {[]string{"?"}, []api.Task{task(0, "?", "")}, []string{""}},
	} {
		if y, e := shelf.Do(x.x, x.t); !slices.Equal(y, x.want) || e != api.OK {
			t.Errorf("%s: %v %d", name, y, e)
		}
	}
}

// P5.5: Do makes what Tasks says.
func TestDoTasks(t *testing.T) {
	r := rand.New(rand.NewSource(7))
	for range 500 {
		slots := r.Intn(10)
		a, b := someLayout(r, mixed(), slots), someLayout(r, mixed(), slots)
		l, e := shelf.Tasks(a, b)
		if e != api.OK || len(l) != differing(a, b) {
			t.Fatal(a, b, l, e)
		}
		if y, e := shelf.Do(a, l); !slices.Equal(y, b) || e != api.OK {
			t.Fatal(a, b, l, y, e)
		}
	}
}
