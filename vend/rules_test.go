package vend_test

import (
	"math"
	"reflect"
	"slices"
	"sync"
	"testing"

	"coilrack/api"
	"coilrack/vend"
)

// Z1 and Z6: no int makes a function panic or overflow.
func TestAllInts(t *testing.T) {
	ints := []int{math.MinInt, math.MinInt + 1, -1, 0, 1, 2, 1_000, api.MaxAmount, api.MaxCents, math.MaxInt - 1, math.MaxInt}
	for _, a := range ints {
		for _, b := range ints {
			tubes := []api.Tube{{Value: a, Count: b, Most: b}}
			if e := vend.CheckTubes(tubes); (e == api.OK) != (a >= 1 && a <= 10_000 && b >= 0 && b <= 1_000) {
				t.Errorf("%v: %d", tubes, e)
			}
			vend.Change(example(), a)
			vend.Greedy(example(), a)
			vend.Reach(example(), a)
			vend.Lacking(example(), a, b)
			vend.Settle(example(), []int{a, b, a})
			vend.Doubts(example(), []int{a, b}, []int{b, a})
			vend.Float(example(), a)
			c := twoSlots()
			c.Slots[0].Price, c.Slots[0].Most, c.Slots[0].Count, c.Highest = a, b, b, a
			vend.CheckConfig(c)
			m := machine(t, twoSlots())
			m.Insert(a)
			m.Load("a", a)
			m.Fill(a, b)
			m.Fill(10, b)
			m.Price("a", b)
			if n, e := vend.Total(m.Audit().Tubes); e != api.OK || n < 55 {
				t.Errorf("%d %d: %d %d", a, b, n, e)
			}
		}
	}
}

// Z1: functions without objects at once.
func TestAtOnce(t *testing.T) {
	l := example()
	var w sync.WaitGroup
	for range 8 {
		w.Go(func() {
			for range 50 {
				if c, e := vend.Change(l, 30); e != api.OK || !slices.Equal(c, []int{3, 0, 0}) {
					t.Error(c, e)
				}
				if e := vend.CheckConfig(twoSlots()); e != api.OK {
					t.Error(e)
				}
			}
		})
	}
	w.Wait()
}

// Z2: arguments are not modified, and what is behind their length is not looked at.
func TestArguments(t *testing.T) {
	l := append(example(), api.Tube{Value: -1})[:3]
	behind := l[:4]
	prices, takes, add := []int{90, 80, 90}, []int{200, 100, 200}, []int{1, 0, 3}
	vend.Total(l)
	vend.Change(l, 30)
	vend.Greedy(l, 30)
	vend.Reach(l, 60)
	vend.Lacking(l, 60, 10)
	vend.Settle(l, add)
	vend.Doubts(l, prices, takes)
	vend.Float(l, 100)
	if !slices.Equal(l, example()) || behind[3] != (api.Tube{Value: -1}) {
		t.Error(behind)
	}
	if !slices.Equal(prices, []int{90, 80, 90}) || !slices.Equal(takes, []int{200, 100, 200}) || !slices.Equal(add, []int{1, 0, 3}) {
		t.Error(prices, takes, add)
	}
}

// Z2: changing a result changes nothing else.
func TestSettleIsNew(t *testing.T) {
	l := example()
	s, _, _ := vend.Settle(l, []int{0, 0, 0})
	s[0].Count = 19
	if !slices.Equal(l, example()) {
		t.Error(l)
	}
}

// Z2: a machine keeps nothing of its configuration, and changes nothing in it.
func TestConfigIsCopied(t *testing.T) {
	c := twoSlots()
	m := machine(t, c)
	if e := m.Fill(10, 2); e != api.OK {
		t.Fatal(e)
	}
	m.Price("a", 70)
	m.Load("a", 1)
	if !reflect.DeepEqual(c, twoSlots()) {
		t.Error(c)
	}
	insert(t, m, 100)
	if _, e := m.Press("a"); e != api.OK {
		t.Fatal(e)
	}
	if !reflect.DeepEqual(c, twoSlots()) {
		t.Error(c)
	}
	before := m.Audit()
	c.Tubes[0].Count, c.Takes[3], c.Slots[1] = 20, 20, api.Slot{}
	if a := m.Audit(); !reflect.DeepEqual(a, before) {
		t.Error(a)
	}
	if e := m.Insert(20); e != api.ErrNone {
		t.Error(e)
	}
	insert(t, m, 50)
	if s, e := m.Press("b"); e != api.OK || s.Product != "bar" {
		t.Error(s, e)
	}
}

// Z2: changing what a machine gives out changes nothing in it.
func TestMachineGivesCopies(t *testing.T) {
	m := machine(t, twoSlots())
	insert(t, m, 100)
	s, _ := m.Press("a")
	s.Paid[0] = 20
	insert(t, m, 10)
	a := m.Audit()
	a.Tubes[0].Count, a.Sold[0].Many = 20, 9
	b := m.Audit()
	if b.Tubes[0].Count != 1 || b.Sold[0].Many != 1 || b.Out != 20 {
		t.Error(b)
	}
	back := m.Back()
	back[0] = 100
	insert(t, m, 25)
	if l := m.Back(); !slices.Equal(l, []int{25}) {
		t.Error(l)
	}
}

// Z5: empty and nil lists are the same.
func TestEmptyLists(t *testing.T) {
	if c, e := vend.Change([]api.Tube{}, 0); len(c) != 0 || e != api.OK {
		t.Error(c, e)
	}
	if s, over, e := vend.Settle(nil, []int{}); len(s) != 0 || over != 0 || e != api.OK {
		t.Error(s, over, e)
	}
	c := twoSlots()
	c.Slots = []api.Slot{}
	if e := vend.CheckConfig(c); e != api.ErrNone {
		t.Error(e)
	}
	c = twoSlots()
	c.Tubes, c.Takes = []api.Tube{}, []int{}
	if e := vend.CheckConfig(c); e != api.OK {
		t.Error(e)
	}
}

// Z7: the same calls give the same results.
func TestSame(t *testing.T) {
	run := func() (api.Audit, []int) {
		m := machine(t, twoSlots())
		insert(t, m, 100, 50, 25)
		m.Press("a")
		insert(t, m, 100)
		m.Press("b")
		m.Fill(10, 4)
		return m.Audit(), m.Back()
	}
	a, coins := run()
	for range 20 {
		b, others := run()
		if !reflect.DeepEqual(a, b) || !slices.Equal(coins, others) {
			t.Error(a, b, coins, others)
		}
	}
}
