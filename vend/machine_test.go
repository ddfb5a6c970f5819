package vend_test

import (
	"math"
	"math/rand"
	"reflect"
	"slices"
	"strings"
	"testing"

	"coilrack/api"
	"coilrack/vend"
)

// twoSlots is a configuration with tubes that run short, and a note (100) that has no tube.
func twoSlots() api.Config {
	return api.Config{
		Tubes: example(),
		Takes: []int{10, 25, 50, 100},
		Slots: []api.Slot{
			{Key: "a", Product: "can", Price: 80, Most: 5, Count: 2},
			{Key: "b", Product: "bar", Price: 30, Most: 3, Count: 3},
		},
		Highest: 200,
	}
}

func machine(t *testing.T, c api.Config) *vend.Machine {
	t.Helper()
	m, e := vend.New(c)
	if e != api.OK || m == nil {
		t.Fatal("New", m, e)
	}
	return m
}

func insert(t *testing.T, m *vend.Machine, coins ...int) {
	t.Helper()
	for _, v := range coins {
		if e := m.Insert(v); e != api.OK {
			t.Fatalf("Insert %d: %d", v, e)
		}
	}
}

func slotsOf(n int) []api.Slot {
	var l []api.Slot
	for i := range n {
		l = append(l, api.Slot{Key: "s" + string(rune('a'+i/10)) + string(rune('0'+i%10)), Product: "can", Price: 1})
	}
	return l
}

func upTo(n int) []int {
	var l []int
	for i := range n {
		l = append(l, i+1)
	}
	return l
}

// P1.3: what is wrong with a configuration.
func TestCheckConfig(t *testing.T) {
	slot := func(f func(s *api.Slot)) func(c *api.Config) {
		return func(c *api.Config) { f(&c.Slots[1]) }
	}
	long := "a" + strings.Repeat("b", api.MaxName)
	for name, x := range map[string]struct {
		change func(c *api.Config)
		want   api.Errno
	}{
		"nothing":                 {func(c *api.Config) {}, api.OK},
		"tubes":                   {func(c *api.Config) { c.Tubes[1].Value = 10 }, api.ErrOrder},
		"tubes first":             {func(c *api.Config) { c.Tubes[1].Count = -1; c.Takes = upTo(21) }, api.ErrArg},
		"no tubes":                {func(c *api.Config) { c.Tubes = nil }, api.OK},
		"no tubes, no takes":      {func(c *api.Config) { c.Tubes, c.Takes = nil, nil }, api.OK},
		"20 takes":                {func(c *api.Config) { c.Tubes = nil; c.Takes = upTo(api.MaxTakes) }, api.OK},
		"21 takes":                {func(c *api.Config) { c.Tubes = nil; c.Takes = upTo(api.MaxTakes + 1) }, api.ErrLarge},
		"21 takes, one is 0":      {func(c *api.Config) { c.Takes = make([]int, 21) }, api.ErrLarge},
		"a take of 0":             {func(c *api.Config) { c.Takes[0] = 0 }, api.ErrArg},
		"the least take":          {func(c *api.Config) { c.Takes[0] = math.MinInt }, api.ErrArg},
		"the greatest take":       {func(c *api.Config) { c.Takes[3] = api.MaxAmount }, api.OK},
		"a take too great":        {func(c *api.Config) { c.Takes[3] = api.MaxAmount + 1 }, api.ErrArg},
		"equal takes":             {func(c *api.Config) { c.Takes[1] = 10 }, api.ErrOrder},
		"falling takes":           {func(c *api.Config) { c.Takes[2] = 20 }, api.ErrOrder},
		"0 before order":          {func(c *api.Config) { c.Takes[2] = 0 }, api.ErrArg},
		"order, then 0":           {func(c *api.Config) { c.Takes[1], c.Takes[2] = 5, 0 }, api.ErrOrder},
		"order before tubes":      {func(c *api.Config) { c.Takes = []int{5, 5} }, api.ErrOrder},
		"a tube is not taken":     {func(c *api.Config) { c.Takes = []int{10, 25, 100} }, api.ErrNone},
		"tubes before slots":      {func(c *api.Config) { c.Takes = nil; c.Slots = slotsOf(61) }, api.ErrNone},
		"no slots":                {func(c *api.Config) { c.Slots = nil }, api.ErrNone},
		"no slots, before others": {func(c *api.Config) { c.Slots = nil; c.Highest = 0 }, api.ErrNone},
		"60 slots":                {func(c *api.Config) { c.Slots = slotsOf(api.MaxSlots) }, api.OK},
		"61 slots":                {func(c *api.Config) { c.Slots = slotsOf(api.MaxSlots + 1) }, api.ErrLarge},
		"61 slots, no names":      {func(c *api.Config) { c.Slots = make([]api.Slot, 61) }, api.ErrLarge},
		"no key":                  {slot(func(s *api.Slot) { s.Key = "" }), api.ErrName},
		"a bad key":               {slot(func(s *api.Slot) { s.Key = "b c" }), api.ErrName},
		"a long key":              {slot(func(s *api.Slot) { s.Key = long }), api.ErrName},
		"a key of 40 bytes":       {slot(func(s *api.Slot) { s.Key = long[:api.MaxName] }), api.OK},
		"equal keys":              {slot(func(s *api.Slot) { s.Key = "a" }), api.ErrOrder},
		"falling keys":            {func(c *api.Config) { c.Slots[0].Key = "c" }, api.ErrOrder},
		"a key with more bytes":   {slot(func(s *api.Slot) { s.Key = "a-" }), api.OK},
		"key before order":        {slot(func(s *api.Slot) { s.Key = "A" }), api.ErrName},
		"order before product":    {slot(func(s *api.Slot) { s.Key, s.Product = "a", "" }), api.ErrOrder},
		"no product":              {slot(func(s *api.Slot) { s.Product = "" }), api.ErrName},
		"a bad product":           {slot(func(s *api.Slot) { s.Product = "1a" }), api.ErrName},
		"product before price":    {slot(func(s *api.Slot) { s.Product, s.Price = "", 0 }), api.ErrName},
		"the same product":        {slot(func(s *api.Slot) { s.Product = "can" }), api.OK},
		"price 0":                 {slot(func(s *api.Slot) { s.Price = 0 }), api.ErrArg},
		"price below 0":           {slot(func(s *api.Slot) { s.Price = math.MinInt }), api.ErrArg},
		"the greatest price":      {slot(func(s *api.Slot) { s.Price = api.MaxAmount }), api.OK},
		"a price too great":       {slot(func(s *api.Slot) { s.Price = api.MaxAmount + 1 }), api.ErrArg},
		"no room":                 {slot(func(s *api.Slot) { s.Most, s.Count = 0, 0 }), api.OK},
		"most below 0":            {slot(func(s *api.Slot) { s.Most, s.Count = -1, -1 }), api.ErrArg},
		"1,000 units":             {slot(func(s *api.Slot) { s.Most, s.Count = 1_000, 1_000 }), api.OK},
		"most above 1,000":        {slot(func(s *api.Slot) { s.Most = 1_001 }), api.ErrArg},
		"count below 0":           {slot(func(s *api.Slot) { s.Count = -1 }), api.ErrArg},
		"count above most":        {slot(func(s *api.Slot) { s.Count = 4 }), api.ErrArg},
		"the first slot first":    {func(c *api.Config) { c.Slots[0].Price = 0; c.Slots[1].Key = "" }, api.ErrArg},
		"slots before highest":    {func(c *api.Config) { c.Slots[1].Key = ""; c.Highest = 0 }, api.ErrName},
		"highest 0":               {func(c *api.Config) { c.Highest = 0 }, api.ErrArg},
		"highest below 0":         {func(c *api.Config) { c.Highest = math.MinInt }, api.ErrArg},
		"highest 1":               {func(c *api.Config) { c.Highest = 1 }, api.OK},
		"the greatest highest":    {func(c *api.Config) { c.Highest = api.MaxAmount }, api.OK},
		"highest too great":       {func(c *api.Config) { c.Highest = api.MaxAmount + 1 }, api.ErrArg},
	} {
		c := twoSlots()
		x.change(&c)
		if e := vend.CheckConfig(c); e != x.want {
			t.Errorf("%s: CheckConfig %d, not %d", name, e, x.want)
		}
		m, e := vend.New(c)
		if e != x.want || (m != nil) != (e == api.OK) {
			t.Errorf("%s: New %v %d, not %d", name, m, e, x.want)
		}
	}
}

// P1.4: Insert.
func TestInsert(t *testing.T) {
	m := machine(t, twoSlots())
	for _, v := range []int{20, 0, -10, math.MinInt, math.MaxInt} {
		if e := m.Insert(v); e != api.ErrNone {
			t.Errorf("%d: %d", v, e)
		}
	}
	insert(t, m, 100, 50, 25)
	if e := m.Insert(50); e != api.ErrFull {
		t.Error(e)
	}
	if e := m.Insert(20); e != api.ErrNone {
		t.Error(e)
	}
	insert(t, m, 25)
	if e := m.Insert(10); e != api.ErrFull {
		t.Error(e)
	}
	if a := m.Audit(); a.Credit != 200 || a.In != 0 {
		t.Error(a)
	}
}

// P1.4: what Press does.
func TestPress(t *testing.T) {
	m := machine(t, twoSlots())
	insert(t, m, 100)
	s, e := m.Press("a")
	if e != api.OK || !reflect.DeepEqual(s, api.Sale{Product: "can", Price: 80, Paid: []int{2, 0, 0}}) {
		t.Fatal(s, e)
	}
	insert(t, m, 10, 10, 10)
	s, e = m.Press("b")
	if e != api.OK || !reflect.DeepEqual(s, api.Sale{Product: "bar", Price: 30, Paid: []int{0, 0, 0}}) {
		t.Fatal(s, e)
	}
	want := api.Audit{
		Sold: []api.Tally{{Key: "a", Many: 1, Value: 80}, {Key: "b", Many: 1, Value: 30}},
		In:   130, Out: 20, Box: 100,
		Tubes: []api.Tube{{Value: 10, Count: 4, Most: 20}, {Value: 25, Count: 1, Most: 20}, {Value: 50, Count: 0, Most: 2}},
	}
	if a := m.Audit(); !reflect.DeepEqual(a, want) {
		t.Error(a)
	}
}

// P1.4: coins in escrow are there for the change, and the box takes what has no room.
func TestPressWithEscrow(t *testing.T) {
	c := twoSlots()
	c.Tubes = []api.Tube{{Value: 10, Count: 0, Most: 20}, {Value: 50, Count: 0, Most: 2}}
	m := machine(t, c)
	insert(t, m, 50, 50)
	if _, e := m.Press("a"); e != api.ErrConflict { // 20 cannot be paid with fifties
		t.Error(e)
	}
	if a := m.Audit(); a.Credit != 100 || a.In != 0 || a.Box != 0 || a.Tubes[1].Count != 0 || a.Sold[0].Many != 0 {
		t.Error(a)
	}
	insert(t, m, 10)
	if _, e := m.Press("b"); e != api.ErrConflict { // 80: 50 and 10, and no more
		t.Error(e)
	}
	insert(t, m, 10, 10, 50)
	s, e := m.Press("a") // 180 - 80: of three fifties two have room
	if e != api.OK || !slices.Equal(s.Paid, []int{0, 2}) {
		t.Fatal(s, e)
	}
	a := m.Audit()
	if a.In != 180 || a.Out != 100 || a.Box != 50 || a.Tubes[0].Count != 3 || a.Tubes[1].Count != 0 || a.Credit != 0 {
		t.Error(a)
	}
	if b := m.Back(); len(b) != 0 {
		t.Error(b)
	}
}

// P1.4: change is paid by the tubes alone, not from the box.
func TestPressNotFromBox(t *testing.T) {
	c := twoSlots()
	c.Tubes = []api.Tube{{Value: 10, Count: 0, Most: 1}}
	c.Slots = []api.Slot{{Key: "a", Product: "can", Price: 80, Most: 5, Count: 5}}
	m := machine(t, c)
	insert(t, m, 10, 10, 10, 10, 10, 50)
	if _, e := m.Press("a"); e != api.ErrConflict { // 20: one ten has room
		t.Error(e)
	}
	if b := m.Back(); !slices.Equal(b, []int{10, 10, 10, 10, 10, 50}) {
		t.Error(b)
	}
	insert(t, m, 10, 10, 10, 10, 50)
	s, e := m.Press("a")
	if e != api.OK || !slices.Equal(s.Paid, []int{1}) {
		t.Error(s, e)
	}
	if n := m.Collect(); n != 80 {
		t.Error(n)
	}
}

// P1.4: the errors of Press, and their order.
func TestPressErrors(t *testing.T) {
	c := twoSlots()
	c.Slots[1].Count = 0
	m := machine(t, c)
	press := func(slot string, want api.Errno) {
		t.Helper()
		before := m.Audit()
		s, e := m.Press(slot)
		if e != want || !reflect.DeepEqual(s, api.Sale{}) {
			t.Errorf("%s: %v %d, not %d", slot, s, e, want)
		}
		if after := m.Audit(); !reflect.DeepEqual(before, after) {
			t.Errorf("%s: %v is %v", slot, before, after)
		}
	}
	press("", api.ErrNone)
	press("c", api.ErrNone)
	press("A", api.ErrNone)
	press("b", api.ErrState)
	press("a", api.ErrRule)
	m.Jam("a")
	press("a", api.ErrState)
	m.Free("a")
	insert(t, m, 50, 25)
	press("a", api.ErrRule)
	insert(t, m, 25)
	m.Jam("a")
	press("a", api.ErrState)
	m.Free("a")
	m.Back()
	insert(t, m, 100, 100)
	press("a", api.ErrConflict) // 120 of 55
	m.Jam("a")
	press("a", api.ErrState)
	m.Free("a")
	m.Back()
	insert(t, m, 100, 50)
	if s, e := m.Press("a"); e != api.OK || !slices.Equal(s.Paid, []int{2, 0, 1}) { // 70, with the 50 of the escrow
		t.Error(s, e)
	}
}

// P1.4: change is Change of the tubes, not of Greedy.
func TestPressPaysExactly(t *testing.T) {
	c := twoSlots()
	c.Slots[0].Price = 70
	m := machine(t, c)
	insert(t, m, 100)
	if s, e := m.Press("a"); e != api.OK || !slices.Equal(s.Paid, []int{3, 0, 0}) {
		t.Error(s, e)
	}
}

// P1.4: a machine without tubes sells for exact amounts.
func TestNoTubes(t *testing.T) {
	c := twoSlots()
	c.Tubes = nil
	m := machine(t, c)
	insert(t, m, 50, 50)
	if _, e := m.Press("a"); e != api.ErrConflict {
		t.Error(e)
	}
	m.Back()
	insert(t, m, 10, 10, 10)
	if s, e := m.Press("b"); e != api.OK || len(s.Paid) != 0 {
		t.Error(s, e)
	}
	if a := m.Audit(); a.Box != 30 || a.In != 30 || a.Out != 0 || len(a.Tubes) != 0 {
		t.Error(a)
	}
}

// P1.4: more coins in escrow than Settle takes at once.
func TestManyCoins(t *testing.T) {
	c := api.Config{
		Tubes: []api.Tube{{Value: 1, Count: 0, Most: 1_000}}, Takes: []int{1},
		Slots: []api.Slot{{Key: "a", Product: "can", Price: 19_500, Most: 1, Count: 1}}, Highest: api.MaxAmount,
	}
	m := machine(t, c)
	for range api.MaxAmount {
		insert(t, m, 1)
	}
	if e := m.Insert(1); e != api.ErrFull {
		t.Error(e)
	}
	s, e := m.Press("a")
	if e != api.OK || !slices.Equal(s.Paid, []int{500}) {
		t.Error(s, e)
	}
	if a := m.Audit(); a.Box != 19_000 || a.In != 20_000 || a.Out != 500 || a.Tubes[0].Count != 500 {
		t.Error(a)
	}
}

// P1.4: Back.
func TestBack(t *testing.T) {
	m := machine(t, twoSlots())
	if b := m.Back(); len(b) != 0 {
		t.Error(b)
	}
	insert(t, m, 50, 10, 100, 10)
	b := m.Back()
	if !slices.Equal(b, []int{50, 10, 100, 10}) {
		t.Error(b)
	}
	if a := m.Audit(); a.Credit != 0 || a.In != 0 || a.Box != 0 {
		t.Error(a)
	}
	insert(t, m, 25, 25)
	if !slices.Equal(b, []int{50, 10, 100, 10}) {
		t.Error("a result changed", b)
	}
	if b := m.Back(); !slices.Equal(b, []int{25, 25}) {
		t.Error(b)
	}
	if b := m.Back(); len(b) != 0 {
		t.Error(b)
	}
}

// P1.4: Jam and Free.
func TestJamAndFree(t *testing.T) {
	m := machine(t, twoSlots())
	insert(t, m, 50, 10, 10, 10)
	for _, x := range []struct {
		call func(string) api.Errno
		slot string
		want api.Errno
	}{
		{m.Jam, "c", api.ErrNone}, {m.Free, "c", api.ErrNone}, {m.Free, "a", api.ErrState},
		{m.Jam, "a", api.OK}, {m.Jam, "a", api.ErrState}, {m.Free, "b", api.ErrState}, {m.Jam, "b", api.OK},
		{m.Free, "a", api.OK}, {m.Free, "a", api.ErrState},
	} {
		if e := x.call(x.slot); e != x.want {
			t.Errorf("%s: %d, not %d", x.slot, e, x.want)
		}
	}
	if _, e := m.Press("b"); e != api.ErrState {
		t.Error(e)
	}
	if _, e := m.Press("a"); e != api.OK {
		t.Error(e)
	}
}

// P1.4: Load, and that Press takes units away.
func TestLoad(t *testing.T) {
	m := machine(t, twoSlots()) // a: 2 of 5
	for _, x := range []struct {
		slot string
		many int
		want api.Errno
	}{
		{"c", 0, api.ErrNone}, {"a", 0, api.ErrArg}, {"a", -1, api.ErrArg}, {"a", math.MinInt, api.ErrArg},
		{"a", 4, api.ErrFull}, {"a", math.MaxInt, api.ErrFull}, {"a", 2, api.OK}, {"a", 2, api.ErrFull}, {"a", 1, api.OK}, {"a", 1, api.ErrFull},
		{"b", 1, api.ErrFull},
	} {
		if e := m.Load(x.slot, x.many); e != x.want {
			t.Errorf("%s %d: %d, not %d", x.slot, x.many, e, x.want)
		}
	}
	for i := range 6 {
		insert(t, m, 50, 10, 10, 10)
		_, e := m.Press("a")
		if (i < 5) != (e == api.OK) || i == 5 && e != api.ErrState {
			t.Error(i, e)
		}
	}
	if e := m.Load("a", 1); e != api.OK {
		t.Error(e)
	}
	if _, e := m.Press("a"); e != api.OK {
		t.Error(e)
	}
}

// P1.4: Fill.
func TestFill(t *testing.T) {
	m := machine(t, twoSlots())
	for _, x := range []struct {
		value, many int
		want        api.Errno
	}{
		{100, 0, api.ErrNone}, {0, 1, api.ErrNone}, {-10, 1, api.ErrNone}, {math.MaxInt, 1, api.ErrNone},
		{50, 0, api.ErrArg}, {50, math.MinInt, api.ErrArg}, {50, 3, api.ErrFull}, {50, math.MaxInt, api.ErrFull},
		{50, 2, api.OK}, {50, 1, api.ErrFull}, {10, math.MaxInt, api.ErrFull}, {10, 17, api.OK},
	} {
		if e := m.Fill(x.value, x.many); e != x.want {
			t.Errorf("%d %d: %d, not %d", x.value, x.many, e, x.want)
		}
	}
	a := m.Audit()
	if a.Filled != 270 || a.In != 0 || a.Tubes[0].Count != 20 || a.Tubes[1].Count != 1 || a.Tubes[2].Count != 2 {
		t.Error(a)
	}
}

// P1.4: Collect.
func TestCollect(t *testing.T) {
	m := machine(t, twoSlots())
	if n := m.Collect(); n != 0 {
		t.Error(n)
	}
	insert(t, m, 100)
	if n := m.Collect(); n != 0 { // still in escrow
		t.Error(n)
	}
	if _, e := m.Press("a"); e != api.OK {
		t.Error(e)
	}
	if n := m.Collect(); n != 100 {
		t.Error(n)
	}
	if n := m.Collect(); n != 0 {
		t.Error(n)
	}
	if a := m.Audit(); a.Collected != 100 || a.Box != 0 || a.In != 100 {
		t.Error(a)
	}
}

// P1.4 and P1.5: Price, and that what was sold keeps its price.
func TestPrice(t *testing.T) {
	m := machine(t, twoSlots())
	for _, x := range []struct {
		slot  string
		price int
		want  api.Errno
	}{
		{"c", 0, api.ErrNone}, {"c", 10, api.ErrNone}, {"a", 0, api.ErrArg}, {"a", -1, api.ErrArg}, {"a", math.MaxInt, api.ErrArg},
		{"a", api.MaxAmount + 1, api.ErrArg}, {"a", api.MaxAmount, api.OK}, {"a", 1, api.OK}, {"a", 50, api.OK},
	} {
		if e := m.Price(x.slot, x.price); e != x.want {
			t.Errorf("%s %d: %d, not %d", x.slot, x.price, e, x.want)
		}
	}
	insert(t, m, 50)
	if s, e := m.Press("a"); e != api.OK || s.Price != 50 {
		t.Error(s, e)
	}
	if e := m.Price("a", 60); e != api.OK {
		t.Error(e)
	}
	insert(t, m, 50)
	if _, e := m.Press("a"); e != api.ErrRule {
		t.Error(e)
	}
	insert(t, m, 10)
	if s, e := m.Press("a"); e != api.OK || s.Price != 60 {
		t.Error(s, e)
	}
	if a := m.Audit(); a.Sold[0] != (api.Tally{Key: "a", Many: 2, Value: 110}) {
		t.Error(a)
	}
}

// P1.5: what a new machine counts, and the credit.
func TestAudit(t *testing.T) {
	m := machine(t, twoSlots())
	want := api.Audit{Sold: []api.Tally{{Key: "a"}, {Key: "b"}}, Tubes: example()}
	if a := m.Audit(); !reflect.DeepEqual(a, want) {
		t.Error(a)
	}
	insert(t, m, 25, 10)
	want.Credit = 35
	if a := m.Audit(); !reflect.DeepEqual(a, want) {
		t.Error(a)
	}
}

// anyCall makes some call, and returns its error.
func anyCall(r *rand.Rand, m *vend.Machine) api.Errno {
	slot := []string{"a", "b", "c"}[r.Intn(3)]
	coins := []int{10, 25, 50, 100, 20}
	switch r.Intn(14) {
	case 0:
		m.Back()
	case 1:
		return m.Jam(slot)
	case 2, 3:
		return m.Free(slot)
	case 4:
		return m.Load(slot, r.Intn(6))
	case 5:
		return m.Fill(coins[r.Intn(5)], r.Intn(8))
	case 6:
		m.Collect()
	case 7:
		return m.Price(slot, r.Intn(30)*5)
	case 8, 9, 10:
		_, e := m.Press(slot)
		return e
	default:
		return m.Insert(coins[r.Intn(5)])
	}
	return api.OK
}

// P1.5: after whatever calls, no coin is lost, and a call with an error changes nothing.
func TestNothingLost(t *testing.T) {
	r := rand.New(rand.NewSource(4))
	begin, _ := vend.Total(example())
	sales := 0
	for range 60 {
		m := machine(t, twoSlots())
		for range 150 {
			before := m.Audit()
			e := anyCall(r, m)
			a := m.Audit()
			if e != api.OK && !reflect.DeepEqual(before, a) {
				t.Fatalf("error %d: %v is %v", e, before, a)
			}
			sold := 0
			for _, s := range a.Sold {
				sold += s.Value
			}
			if a.In-a.Out != sold {
				t.Fatalf("sold %d: %v", sold, a)
			}
			total, bad := vend.Total(a.Tubes)
			if bad != api.OK || total+a.Box != begin+a.In-a.Out+a.Filled-a.Collected {
				t.Fatalf("%v: %d, began with %d", a, total, begin)
			}
			if a.Credit < 0 || a.Credit > 200 {
				t.Fatal(a)
			}
		}
		for _, s := range m.Audit().Sold {
			sales += s.Many
		}
	}
	if sales < 60 {
		t.Error("too few sales to say anything:", sales)
	}
}
