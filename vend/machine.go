package vend

import (
	"slices"

	"coilrack/api"
	"coilrack/terms"
)

// Machine takes coins, and sells.
type Machine struct {
	tubes   []api.Tube
	takes   []int
	bays    []bay
	highest int

	escrow []int // values of coins, in the order in which they were inserted
	credit int   // their sum
	box    int   // the value of what tubes have no room for

	in, out, filled, collected int
}

// bay is a slot, and what happened to it.
type bay struct {
	api.Slot
	jammed     bool
	sold, sums int // units, and their prices when they were sold
}

// New makes a machine.
func New(c api.Config) (*Machine, api.Errno) {
	if e := CheckConfig(c); e != api.OK {
		return nil, e
	}
	m := &Machine{tubes: slices.Clone(c.Tubes), takes: slices.Clone(c.Takes), highest: c.Highest}
	for _, s := range c.Slots {
		m.bays = append(m.bays, bay{Slot: s})
	}
	return m, api.OK
}

// Insert takes a coin.
func (m *Machine) Insert(value int) api.Errno {
	if !slices.Contains(m.takes, value) {
		return api.ErrNone
	}
	if m.credit+value > m.highest {
		return api.ErrFull
	}
	m.escrow = append(m.escrow, value)
	m.credit += value
	return api.OK
}

// Press sells.
func (m *Machine) Press(slot string) (api.Sale, api.Errno) {
	b := m.find(slot)
	switch {
	case b == nil:
		return api.Sale{}, api.ErrNone
	case b.jammed || b.Count == 0:
		return api.Sale{}, api.ErrState
	case m.credit < b.Price:
		return api.Sale{}, api.ErrRule
	}
	tubes, over := m.deposit()
	change := m.credit - b.Price
	paid, ok := pay(tubes, change)
	if !ok {
		return api.Sale{}, api.ErrConflict
	}
	for i, n := range paid {
		tubes[i].Count -= n
	}
	m.tubes = tubes
	m.box += over
	m.in += m.credit
	m.out += change
	m.empty()
	b.Count--
	b.sold++
	b.sums += b.Price
	return api.Sale{Product: b.Product, Price: b.Price, Paid: paid}, api.OK
}

// Back gives the coins in escrow back.
func (m *Machine) Back() []int {
	coins := m.escrow
	m.empty()
	return coins
}

// Jam makes a slot jammed.
func (m *Machine) Jam(slot string) api.Errno {
	b := m.find(slot)
	if b == nil {
		return api.ErrNone
	}
	if b.jammed {
		return api.ErrState
	}
	b.jammed = true
	return api.OK
}

// Free makes a slot free.
func (m *Machine) Free(slot string) api.Errno {
	b := m.find(slot)
	if b == nil {
		return api.ErrNone
	}
	if !b.jammed {
		return api.ErrState
	}
	b.jammed = false
	return api.OK
}

// Load puts units into a slot.
func (m *Machine) Load(slot string, many int) api.Errno {
	b := m.find(slot)
	if b == nil {
		return api.ErrNone
	}
	if many < 1 {
		return api.ErrArg
	}
	if many > b.Most-b.Count { // a sum with many could overflow
		return api.ErrFull
	}
	b.Count += many
	return api.OK
}

// Fill puts coins into a tube.
func (m *Machine) Fill(value, many int) api.Errno {
	i := m.tube(value)
	if i < 0 {
		return api.ErrNone
	}
	if many < 1 {
		return api.ErrArg
	}
	if many > m.tubes[i].Most-m.tubes[i].Count { // a sum with many could overflow
		return api.ErrFull
	}
	m.tubes[i].Count += many
	m.filled += many * value
	return api.OK
}

// Collect empties the box.
func (m *Machine) Collect() int {
	value := m.box
	m.box = 0
	m.collected += value
	return value
}

// Price changes a price.
func (m *Machine) Price(slot string, price int) api.Errno {
	b := m.find(slot)
	if b == nil {
		return api.ErrNone
	}
	if !terms.Between(price, 1, api.MaxAmount) {
		return api.ErrArg
	}
	b.Price = price
	return api.OK
}

// Audit returns what the machine counts.
func (m *Machine) Audit() api.Audit {
	a := api.Audit{
		In: m.in, Out: m.out, Filled: m.filled, Collected: m.collected,
		Box: m.box, Credit: m.credit, Tubes: slices.Clone(m.tubes),
	}
	for _, b := range m.bays {
		a.Sold = append(a.Sold, api.Tally{Key: b.Key, Many: b.sold, Value: b.sums})
	}
	return a
}

// find returns the slot with a key, or nil.
func (m *Machine) find(key string) *bay {
	i := slices.IndexFunc(m.bays, func(b bay) bool { return b.Key == key })
	if i < 0 {
		return nil
	}
	return &m.bays[i]
}

// tube returns the index of the tube for coins of a value, or -1.
func (m *Machine) tube(value int) int {
	return slices.IndexFunc(m.tubes, func(t api.Tube) bool { return t.Value == value })
}

// deposit returns the tubes as they are after the coins in escrow were put into them, and the value of those that go into the box.
func (m *Machine) deposit() ([]api.Tube, int) {
	add := make([]int, len(m.tubes))
	loose := 0
	for _, v := range m.escrow {
		if i := m.tube(v); i >= 0 {
			add[i]++
		} else {
			loose += v
		}
	}
	// Escrow may have more coins of a value than Settle permits.
	tubes, over := settle(m.tubes, add)
	return tubes, over + loose
}

// empty ends the escrow with a new list, because Back gives the old one away.
func (m *Machine) empty() {
	m.escrow = nil
	m.credit = 0
}
