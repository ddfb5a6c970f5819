package till_test

import (
	"fmt"
	"math"
	"math/rand"
	"slices"
	"strings"
	"testing"

	"coilrack/api"
	"coilrack/till"
)

func line(account string, cents int) api.Line { return api.Line{Account: account, Cents: cents} }

func entry(day int, text string, lines ...api.Line) api.Entry {
	return api.Entry{Day: day, Text: text, Lines: lines}
}

// moves is an entry that moves cents from an account to another one.
func moves(day int, from, to string, cents int) api.Entry {
	return entry(day, "move", line(to, cents), line(from, -cents))
}

func posted(no, day int, text string, cents, sum int) api.Posted {
	return api.Posted{No: no, Day: day, Text: text, Cents: cents, Sum: sum}
}

// manyLines makes n lines, an even number, in which nothing is wrong.
func manyLines(n int) []api.Line {
	var l []api.Line
	for i, k := range keys(n) {
		l = append(l, line(k, 1-2*(i%2)))
	}
	return l
}

// post adds entries in which nothing is wrong.
func post(t *testing.T, x *till.Ledger, l ...api.Entry) {
	t.Helper()
	for _, e := range l {
		if no, err := x.Post(e); no == 0 || err != api.OK {
			t.Fatal(e, no, err)
		}
	}
}

// ledgerOf makes a ledger with these entries.
func ledgerOf(t *testing.T, l ...api.Entry) *till.Ledger {
	t.Helper()
	x := till.NewLedger()
	if x == nil {
		t.Fatal("no ledger")
	}
	post(t, x, l...)
	return x
}

// stands says whether a ledger has these accounts with these balances.
func stands(t *testing.T, x *till.Ledger, want ...api.Named) {
	t.Helper()
	if l := x.Trial(); !slices.Equal(l, want) {
		t.Errorf("Trial: %v, not %v", l, want)
	}
	for _, n := range want {
		if cents, e := x.Balance(n.Key); cents != n.Many || e != api.OK {
			t.Errorf("Balance of %s: %d %d, not %d", n.Key, cents, e, n.Many)
		}
	}
}

// runs says whether an account has these lines.
func runs(t *testing.T, x *till.Ledger, account string, want ...api.Posted) {
	t.Helper()
	if l, e := x.Lines(account); !slices.Equal(l, want) || e != api.OK {
		t.Errorf("Lines of %s: %v %d, not %v", account, l, e, want)
	}
}

// entryErrors is entries with something wrong.
func entryErrors() map[string]struct {
	e    api.Entry
	want api.Errno
} {
	a, b := line("a", 5), line("b", -5)
	many, wrong := manyLines(22), slices.Repeat([]api.Line{line("", 0)}, 21)
	return map[string]struct {
		e    api.Entry
		want api.Errno
	}{
		"day below 0":             {entry(-1, "x", a, b), api.ErrArg},
		"day after all":           {entry(api.MaxDay+1, "x", a, b), api.ErrArg},
		"least day":               {entry(math.MinInt, "x", a, b), api.ErrArg},
		"greatest day":            {entry(math.MaxInt, "x", a, b), api.ErrArg},
		"no text":                 {entry(3, "", a, b), api.ErrForm},
		"too long a text":         {entry(3, strings.Repeat("x", 61), a, b), api.ErrForm},
		"too many bytes":          {entry(3, strings.Repeat("ä", 31), a, b), api.ErrForm},
		"a blank before":          {entry(3, " x", a, b), api.ErrForm},
		"a blank behind":          {entry(3, "x ", a, b), api.ErrForm},
		"a blank alone":           {entry(3, " ", a, b), api.ErrForm},
		"two blanks":              {entry(3, "x  y", a, b), api.ErrForm},
		"a line feed":             {entry(3, "x\ny", a, b), api.ErrForm},
		"byte 127":                {entry(3, "x\x7f", a, b), api.ErrForm},
		"byte 0":                  {entry(3, "\x00", a, b), api.ErrForm},
		"not utf-8":               {entry(3, "x\xff", a, b), api.ErrForm},
		"no lines":                {entry(3, "x"), api.ErrNone},
		"one line":                {entry(3, "x", a), api.ErrNone},
		"too many lines":          {entry(3, "x", many...), api.ErrLarge},
		"21 lines":                {entry(3, "x", many[:21]...), api.ErrLarge},
		"no account":              {entry(3, "x", a, line("", -5)), api.ErrName},
		"an account that no key":  {entry(3, "x", line("A", 5), b), api.ErrName},
		"an account with a blank": {entry(3, "x", line("a b", 5), b), api.ErrName},
		"twice":                   {entry(3, "x", a, b, a, b), api.ErrTwice},
		"twice, other cents":      {entry(3, "x", a, b, line("a", 1)), api.ErrTwice},
		"no cents":                {entry(3, "x", a, b, line("c", 0)), api.ErrArg},
		"too many cents":          {entry(3, "x", line("a", api.MaxCents+1), line("b", -api.MaxCents), line("c", -1)), api.ErrArg},
		"too few cents":           {entry(3, "x", line("a", -api.MaxCents-1), line("b", api.MaxCents), line("c", 1)), api.ErrArg},
		"least and most cents":    {entry(3, "x", line("a", math.MinInt), line("b", math.MaxInt)), api.ErrArg},
		"greatest cents":          {entry(3, "x", line("a", math.MaxInt), line("b", math.MinInt)), api.ErrArg},
		"a sum above 0":           {entry(3, "x", a, line("b", -4)), api.ErrSum},
		"a sum below 0":           {entry(3, "x", line("a", 4), b), api.ErrSum},
		"a sum of three":          {entry(3, "x", a, b, line("c", 1)), api.ErrSum},
		"all give much":           {entry(3, "x", line("a", -api.MaxCents), line("b", -api.MaxCents), line("c", -api.MaxCents)), api.ErrSum},
		"day before text":         {entry(-1, "", a, b), api.ErrArg},
		"text before lines":       {entry(3, ""), api.ErrForm},
		"text before many lines":  {entry(3, "", wrong...), api.ErrForm},
		"none before name":        {entry(3, "x", line("", 0)), api.ErrNone},
		"large before name":       {entry(3, "x", wrong...), api.ErrLarge},
		"name before cents":       {entry(3, "x", line("", 0), b), api.ErrName},
		"twice before cents":      {entry(3, "x", a, line("a", 0)), api.ErrTwice},
		"cents before names":      {entry(3, "x", a, line("c", 0), line("", 1)), api.ErrArg},
		"names before the sum":    {entry(3, "x", a, line("", 1)), api.ErrName},
	}
}

// P7.4: what is wrong with an entry, which Post asks first.
func TestEntryErrors(t *testing.T) {
	x := ledgerOf(t, entry(4, "first", line("a", 1), line("b", -1)))
	for name, y := range entryErrors() {
		if e := till.CheckEntry(y.e); e != y.want {
			t.Errorf("%s: %d", name, e)
		}
		if no, e := x.Post(y.e); no != 0 || e != y.want { // before the order
			t.Errorf("%s: Post %d %d", name, no, e)
		}
	}
	stands(t, x, named("a", 1), named("b", -1))
	runs(t, x, "a", posted(1, 4, "first", 1, 1))
	for name, e := range map[string]api.Entry{
		"least":          entry(0, "x", line("a", 1), line("b", -1)),
		"greatest":       entry(api.MaxDay, strings.Repeat("x", 60), line("a", api.MaxCents), line("b", -api.MaxCents)),
		"most lines":     entry(5, "x", manyLines(20)...),
		"three":          entry(5, "x y z", line("a", -3), line("c", 1), line("b", 2)),
		"other letters":  entry(5, strings.Repeat("ä", 30), line("a", 1), line("b", -1)),
		"a cancel":       entry(5, "cancel 1", line("a", 1), line("b", -1)),
		"a large sum":    entry(5, "x", line("a", -api.MaxCents), line("b", -api.MaxCents), line("c", api.MaxCents), line("d", api.MaxCents)),
		"accounts' form": entry(5, "x", line(strings.Repeat("k", 40), 1), line("a-_9", -1)),
	} {
		if err := till.CheckEntry(e); err != api.OK {
			t.Errorf("%s: %d", name, err)
		}
		post(t, ledgerOf(t), e)
	}
}

// P7.4: a new ledger is empty.
func TestNewLedger(t *testing.T) {
	x := ledgerOf(t)
	stands(t, x)
	runs(t, x, "a")
	if n, e := x.Balance("a"); n != 0 || e != api.OK {
		t.Error(n, e)
	}
	for _, no := range []int{-1, 0, 1} {
		if n, e := x.Cancel(no); n != 0 || e != api.ErrNone {
			t.Error(no, n, e)
		}
	}
	other := ledgerOf(t, moves(3, "a", "b", 5))
	stands(t, x)
	stands(t, other, named("a", -5), named("b", 5))
}

// P7.4: Post, and what the ledger says then.
func TestPost(t *testing.T) {
	x := till.NewLedger()
	for i, e := range []api.Entry{
		entry(3, "bag one", line("cash", 90), line("loss", 10), line("sales", -100)),
		entry(3, "bag two", line("sales", -70), line("cash", 70)),
		entry(3, "bag one", line("cash", 1), line("bank", -1)),
		entry(8, "to the bank", line("bank", 161), line("cash", -161)),
	} {
		if no, err := x.Post(e); no != i+1 || err != api.OK {
			t.Error(no, err)
		}
	}
	stands(t, x, named("bank", 160), named("cash", 0), named("loss", 10), named("sales", -170))
	runs(t, x, "cash", posted(1, 3, "bag one", 90, 90), posted(2, 3, "bag two", 70, 160), posted(3, 3, "bag one", 1, 161), posted(4, 8, "to the bank", -161, 0))
	runs(t, x, "sales", posted(1, 3, "bag one", -100, -100), posted(2, 3, "bag two", -70, -170))
	runs(t, x, "loss", posted(1, 3, "bag one", 10, 10))
	runs(t, x, "bank", posted(3, 3, "bag one", -1, -1), posted(4, 8, "to the bank", 161, 160))
	runs(t, x, "nothing")
	if n, e := x.Balance("nothing"); n != 0 || e != api.OK {
		t.Error(n, e)
	}
	for _, day := range []int{7, 0} {
		if no, e := x.Post(moves(day, "a", "b", 5)); no != 0 || e != api.ErrOrder {
			t.Error(day, no, e)
		}
	}
	stands(t, x, named("bank", 160), named("cash", 0), named("loss", 10), named("sales", -170))
	if no, e := x.Post(moves(8, "loss", "bank", 10)); no != 5 || e != api.OK {
		t.Error(no, e)
	}
	stands(t, x, named("bank", 170), named("cash", 0), named("loss", 0), named("sales", -170))
	for _, account := range []string{"", "Cash", "a b", "9", "cash\n"} {
		if n, e := x.Balance(account); n != 0 || e != api.ErrName {
			t.Errorf("%q: Balance %d %d", account, n, e)
		}
		if l, e := x.Lines(account); len(l) != 0 || e != api.ErrName {
			t.Errorf("%q: Lines %v %d", account, l, e)
		}
	}
}

// P7.4: accounts are sorted byte by byte.
func TestTrial(t *testing.T) {
	x := ledgerOf(t, entry(0, "x", line("z", 1), line("a0", 2), line("b", 3), line("a-", 4), line("a", 5), line("a_", -15)))
	stands(t, x, named("a", 5), named("a-", 4), named("a0", 2), named("a_", -15), named("b", 3), named("z", 1))
}

// P7.4: a cancelling changes all balances back.
func TestCancel(t *testing.T) {
	x := ledgerOf(t,
		entry(3, "bag one", line("cash", 90), line("loss", 10), line("sales", -100)),
		entry(5, "bag two", line("sales", -70), line("cash", 70)),
		entry(5, "cancel 1", line("cash", 1), line("bank", -1)), // no cancelling, in spite of its text
	)
	for _, no := range []int{0, -1, 4, math.MinInt, math.MaxInt} {
		if n, e := x.Cancel(no); n != 0 || e != api.ErrNone {
			t.Error(no, n, e)
		}
	}
	if no, e := x.Cancel(1); no != 4 || e != api.OK {
		t.Error(no, e)
	}
	stands(t, x, named("bank", -1), named("cash", 71), named("loss", 0), named("sales", -70))
	for _, no := range []int{1, 4} { // cancelled, and itself a cancelling
		if n, e := x.Cancel(no); n != 0 || e != api.ErrState {
			t.Error(no, n, e)
		}
	}
	if no, e := x.Cancel(3); no != 5 || e != api.OK {
		t.Error(no, e)
	}
	post(t, x, moves(9, "cash", "bank", 20))
	if no, e := x.Cancel(2); no != 7 || e != api.OK {
		t.Error(no, e)
	}
	stands(t, x, named("bank", 20), named("cash", -20), named("loss", 0), named("sales", 0))
	runs(t, x, "cash",
		posted(1, 3, "bag one", 90, 90), posted(2, 5, "bag two", 70, 160), posted(3, 5, "cancel 1", 1, 161), posted(4, 5, "cancel 1", -90, 71),
		posted(5, 5, "cancel 3", -1, 70), posted(6, 9, "move", -20, 50), posted(7, 9, "cancel 2", -70, -20),
	)
	runs(t, x, "loss", posted(1, 3, "bag one", 10, 10), posted(4, 5, "cancel 1", -10, 0))
	for no := 1; no <= 7; no++ {
		if n, e := x.Cancel(no); no != 6 && (n != 0 || e != api.ErrState) {
			t.Error(no, n, e)
		}
	}
	if no, e := x.Post(moves(8, "a", "b", 1)); no != 0 || e != api.ErrOrder {
		t.Error(no, e)
	}
}

// P7.4: a ledger with as many entries as there can be.
func TestFull(t *testing.T) {
	x := till.NewLedger()
	for range api.MaxEntries - 2 {
		post(t, x, moves(3, "a", "b", 1_000))
	}
	post(t, x, moves(4, "a", "b", 7))
	if no, e := x.Cancel(1); no != api.MaxEntries || e != api.OK {
		t.Fatal(no, e)
	}
	for name, f := range map[string]struct {
		do   func() (int, api.Errno)
		want api.Errno
	}{
		"one more":           {func() (int, api.Errno) { return x.Post(moves(4, "a", "b", 1)) }, api.ErrFull},
		"order before full":  {func() (int, api.Errno) { return x.Post(moves(3, "a", "b", 1)) }, api.ErrOrder},
		"entry before full":  {func() (int, api.Errno) { return x.Post(entry(4, "x")) }, api.ErrNone},
		"a cancelling":       {func() (int, api.Errno) { return x.Cancel(2) }, api.ErrFull},
		"none before full":   {func() (int, api.Errno) { return x.Cancel(api.MaxEntries + 1) }, api.ErrNone},
		"state before full":  {func() (int, api.Errno) { return x.Cancel(1) }, api.ErrState},
		"the last one is it": {func() (int, api.Errno) { return x.Cancel(api.MaxEntries) }, api.ErrState},
	} {
		if no, e := f.do(); no != 0 || e != f.want {
			t.Errorf("%s: %d %d", name, no, e)
		}
	}
	stands(t, x, named("a", -1_997_007), named("b", 1_997_007))
	if l, e := x.Lines("b"); len(l) != api.MaxEntries || l[api.MaxEntries-1] != posted(api.MaxEntries, 4, "cancel 1", -1_000, 1_997_007) || e != api.OK {
		t.Error(len(l), e)
	}
}

// P7.4: no balance leaves its bounds.
func TestLargeBalances(t *testing.T) {
	const most = 1_000_000_000_000
	x := till.NewLedger()
	for range 1_000 {
		post(t, x, moves(3, "low", "high", api.MaxCents))
	}
	stands(t, x, named("high", most), named("low", -most))
	for name, e := range map[string]api.Entry{
		"both":            moves(3, "low", "high", 1),
		"too great":       moves(3, "other", "high", 1),
		"too little":      moves(3, "low", "other", 1),
		"as far as it is": moves(3, "low", "high", api.MaxCents),
		"the last line":   entry(3, "x", line("a", 2), line("b", -3), line("high", 1)),
	} {
		if no, err := x.Post(e); no != 0 || err != api.ErrLarge {
			t.Errorf("%s: %d %d", name, no, err)
		}
	}
	stands(t, x, named("high", most), named("low", -most))
	if no, e := x.Post(moves(2, "low", "high", 1)); no != 0 || e != api.ErrOrder {
		t.Error("the order is asked first", no, e)
	}
	if no, e := x.Cancel(7); no != 1_001 || e != api.OK {
		t.Error(no, e)
	}
	post(t, x, moves(3, "other", "high", api.MaxCents), moves(3, "low", "other", api.MaxCents))
	stands(t, x, named("high", most), named("low", -most), named("other", 0))

	// An entry by which an account gives cannot be cancelled when it has all that it can have.
	y := ledgerOf(t, moves(0, "rich", "poor", 1), moves(0, "rich", "poor", 1))
	for range 999 {
		post(t, y, moves(0, "poor", "rich", api.MaxCents))
	}
	post(t, y, moves(0, "poor", "rich", api.MaxCents-1), moves(0, "other", "rich", 3))
	stands(t, y, named("other", -3), named("poor", 3-most), named("rich", most))
	for name, no := range map[string]int{"gives": 1, "gives too": 2} {
		if n, e := y.Cancel(no); n != 0 || e != api.ErrLarge {
			t.Errorf("%s: %d %d", name, n, e)
		}
	}
	if no, e := y.Cancel(1_003); no != 1_004 || e != api.OK {
		t.Error(no, e)
	}
	if no, e := y.Cancel(1); no != 1_005 || e != api.OK {
		t.Error(no, e)
	}
	stands(t, y, named("other", 0), named("poor", 2-most), named("rich", most-2))
}

// book is the entries that a ledger has to have, and which one each of them cancels.
type book struct {
	entries []api.Entry
	cancels []int
}

// agrees says whether a ledger is what the book says, and adds up to 0.
func (b *book) agrees(t *testing.T, x *till.Ledger) {
	t.Helper()
	lines := map[string][]api.Posted{}
	for i, e := range b.entries {
		for _, y := range e.Lines {
			sum := y.Cents
			if l := lines[y.Account]; len(l) > 0 {
				sum += l[len(l)-1].Sum
			}
			lines[y.Account] = append(lines[y.Account], posted(i+1, e.Day, e.Text, y.Cents, sum))
		}
	}
	var want []api.Named
	total := 0
	for _, k := range keys(6) {
		runs(t, x, k, lines[k]...)
		if l := lines[k]; len(l) > 0 {
			want = append(want, named(k, l[len(l)-1].Sum))
			total += l[len(l)-1].Sum
		}
	}
	stands(t, x, want...)
	if total != 0 {
		t.Error(b.entries, total)
	}
}

// step posts or cancels something, and writes it down.
func (b *book) step(t *testing.T, r *rand.Rand, x *till.Ledger) {
	t.Helper()
	last := 0
	if n := len(b.entries); n > 0 {
		last = b.entries[n-1].Day
	}
	if r.Intn(3) > 0 {
		e := someEntry(r)
		no, err := x.Post(e)
		switch {
		case till.CheckEntry(e) != api.OK:
			t.Fatal(e)
		case e.Day < last && no == 0 && err == api.ErrOrder:
		case e.Day >= last && no == len(b.entries)+1 && err == api.OK:
			b.entries, b.cancels = append(b.entries, e), append(b.cancels, 0)
		default:
			t.Fatal(b.entries, e, no, err)
		}
		return
	}
	no := r.Intn(len(b.entries) + 2)
	n, err := x.Cancel(no)
	switch {
	case (no < 1 || no > len(b.entries)) && n == 0 && err == api.ErrNone:
	case no >= 1 && no <= len(b.entries) && (b.cancels[no-1] > 0 || slices.Contains(b.cancels, no)) && n == 0 && err == api.ErrState:
	case no >= 1 && no <= len(b.entries) && b.cancels[no-1] == 0 && !slices.Contains(b.cancels, no) && n == len(b.entries)+1 && err == api.OK:
		e := entry(last, fmt.Sprint("cancel ", no))
		for _, y := range b.entries[no-1].Lines {
			e.Lines = append(e.Lines, line(y.Account, -y.Cents))
		}
		b.entries, b.cancels = append(b.entries, e), append(b.cancels, no)
	default:
		t.Fatal(b.entries, b.cancels, no, n, err)
	}
}

// someEntry makes an entry in which nothing is wrong, of up to 6 accounts.
func someEntry(r *rand.Rand) api.Entry {
	e := entry(r.Intn(6)*r.Intn(6), []string{"a", "bag 1", "cancel 1", "entry 2 x", "ä €", "- *"}[r.Intn(6)])
	accounts, sum := keys(6), 0
	r.Shuffle(6, func(i, j int) { accounts[i], accounts[j] = accounts[j], accounts[i] })
	for _, k := range accounts[:1+r.Intn(5)] {
		n := (1 + r.Intn(9)) * (1 - 2*r.Intn(2))
		if sum+n == 0 {
			n = 50
		}
		e.Lines = append(e.Lines, line(k, n))
		sum += n
	}
	e.Lines = append(e.Lines, line(accounts[5], -sum))
	return e
}

// P7.4: whatever is posted and cancelled, Trial adds up to 0, and an entry and its cancelling change no balance.
func TestLedgersOfSome(t *testing.T) {
	r := rand.New(rand.NewSource(77))
	for range 150 {
		x, b := till.NewLedger(), &book{}
		for range 40 {
			b.step(t, r, x)
			b.agrees(t, x)
		}
	}
	for range 200 {
		x := till.NewLedger()
		for range r.Intn(6) {
			x.Post(someEntry(r))
		}
		before := x.Trial()
		e := someEntry(r)
		e.Day = 99
		no, _ := x.Post(e)
		if _, err := x.Cancel(no); err != api.OK {
			t.Fatal(err)
		}
		after := slices.DeleteFunc(x.Trial(), func(n api.Named) bool {
			return n.Many == 0 && !slices.ContainsFunc(before, func(o api.Named) bool { return o.Key == n.Key })
		})
		if !slices.Equal(before, after) {
			t.Fatal(before, after)
		}
	}
}
