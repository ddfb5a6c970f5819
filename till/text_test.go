package till_test

import (
	"math/rand"
	"regexp"
	"slices"
	"strconv"
	"strings"
	"testing"

	"coilrack/api"
	"coilrack/till"
)

// printed is the text of a ledger that is not too large.
func printed(t *testing.T, x *till.Ledger) string {
	t.Helper()
	s, e := x.Print()
	if e != api.OK {
		t.Fatal(e)
	}
	return s
}

// read reads a ledger in which nothing is wrong.
func read(t *testing.T, text string) *till.Ledger {
	t.Helper()
	x, n, e := till.Read(text)
	if x == nil || n != 0 || e != api.OK {
		t.Fatalf("%.60q: %v %d %d", text, x, n, e)
	}
	return x
}

// sameLedgers says whether two ledgers have the same entries, and the same cancellings.
func sameLedgers(t *testing.T, x, y *till.Ledger) {
	t.Helper()
	trial := x.Trial()
	stands(t, y, trial...)
	for _, n := range trial {
		l, e := x.Lines(n.Key)
		if e != api.OK {
			t.Fatal(e)
		}
		runs(t, y, n.Key, l...)
	}
	s := printed(t, x)
	if again := printed(t, y); again != s {
		t.Errorf("%q, not %q", again, s)
	}
	for no := range 12 {
		n, e := read(t, s).Cancel(no)
		if m, f := read(t, printed(t, y)).Cancel(no); m != n || f != e {
			t.Errorf("%q: Cancel %d: %d %d, not %d %d", s, no, m, f, n, e)
		}
	}
}

// P7.5: a ledger as a text, and back.
func TestPrint(t *testing.T) {
	x := ledgerOf(t)
	if s := printed(t, x); s != "" {
		t.Errorf("%q", s)
	}
	post(t, x, entry(3, "bag one", line("cash", 90), line("loss", 10), line("sales", -100)), entry(12, "cancel 1", line("b", -1), line("a", 1)))
	if _, e := x.Cancel(1); e != api.OK {
		t.Fatal(e)
	}
	post(t, x, entry(api.MaxDay, "ä € entry 1", line("a", api.MaxCents), line("b", -api.MaxCents)))
	if _, e := x.Cancel(4); e != api.OK {
		t.Fatal(e)
	}
	want := "entry 3 bag one\n  cash 90\n  loss 10\n  sales -100\n" +
		"entry 12 cancel 1\n  b -1\n  a 1\n" + // it is no cancelling, in spite of its text
		"cancel 1\n" +
		"entry 4000 ä € entry 1\n  a 1000000000\n  b -1000000000\n" +
		"cancel 4\n"
	if s := printed(t, x); s != want {
		t.Errorf("%q", s)
	}
	sameLedgers(t, x, read(t, want))
	y := read(t, want)
	runs(t, y, "a", posted(2, 12, "cancel 1", 1, 1), posted(4, 4_000, "ä € entry 1", api.MaxCents, api.MaxCents+1), posted(5, 4_000, "cancel 4", -api.MaxCents, 1))
	for i, e := range []api.Errno{api.ErrNone, api.ErrState, api.OK, api.ErrState, api.ErrState, api.ErrState, api.ErrNone} {
		if _, err := read(t, want).Cancel(i); err != e {
			t.Errorf("Cancel %d: %d", i, err)
		}
	}
}

// P7.5: an entry that is read again can be posted to and cancelled.
func TestReadGoesOn(t *testing.T) {
	x := read(t, "entry 3 x\n  a 5\n  b -5\n")
	if no, e := x.Post(moves(2, "a", "b", 1)); no != 0 || e != api.ErrOrder {
		t.Error(no, e)
	}
	post(t, x, moves(3, "a", "b", 1))
	if no, e := x.Cancel(1); no != 3 || e != api.OK {
		t.Error(no, e)
	}
	if s := printed(t, x); s != "entry 3 x\n  a 5\n  b -5\nentry 3 move\n  b 1\n  a -1\ncancel 1\n" {
		t.Errorf("%q", s)
	}
	empty := read(t, "")
	stands(t, empty)
	post(t, empty, moves(0, "a", "b", 1))
}

// P7.5: what is no ledger, and in which line.
func TestReadErrors(t *testing.T) {
	good, half := "entry 3 x\n  a 5\n  b -5\n", "entry 3 x\n  a 5\n"
	for name, x := range map[string]struct {
		text string
		at   int
		want api.Errno
	}{
		"an empty line":                {"\n", 0, api.ErrSyntax},
		"an empty line first":          {"\n" + good, 0, api.ErrSyntax},
		"an empty line last":           {good + "\n", 3, api.ErrSyntax},
		"an empty line between":        {good + "\n" + good, 3, api.ErrSyntax},
		"another word":                 {"enter 3 x\n  a 5\n  b -5\n", 0, api.ErrSyntax},
		"a longer word":                {"entry3 3 x\n  a 5\n  b -5\n", 0, api.ErrSyntax},
		"a capital":                    {"Entry 3 x\n  a 5\n  b -5\n", 0, api.ErrSyntax},
		"a blank first":                {" entry 3 x\n  a 5\n  b -5\n", 0, api.ErrSyntax},
		"two blanks first":             {"  entry 3 x\n  a 5\n  b -5\n", 0, api.ErrSyntax},
		"a line of no entry":           {"  a 5\n  b -5\n", 0, api.ErrSyntax},
		"the word alone":               {"entry\n  a 5\n  b -5\n", 0, api.ErrSyntax},
		"no day":                       {"entry \n  a 5\n  b -5\n", 0, api.ErrSyntax},
		"no blank behind the day":      {"entry 3\n  a 5\n  b -5\n", 0, api.ErrSyntax},
		"no day, but text":             {"entry x\n  a 5\n  b -5\n", 0, api.ErrSyntax},
		"two blanks before the day":    {"entry  3 x\n  a 5\n  b -5\n", 0, api.ErrSyntax},
		"a tab":                        {"entry\t3 x\n  a 5\n  b -5\n", 0, api.ErrSyntax},
		"a day with a 0":               {"entry 03 x\n  a 5\n  b -5\n", 0, api.ErrSyntax},
		"a day with a sign":            {"entry +3 x\n  a 5\n  b -5\n", 0, api.ErrSyntax},
		"a day of -0":                  {"entry -0 x\n  a 5\n  b -5\n", 0, api.ErrSyntax},
		"a day with 11 digits":         {"entry 12345678901 x\n  a 5\n  b -5\n", 0, api.ErrSyntax},
		"a day with 10 digits":         {"entry 1234567890 x\n  a 5\n  b -5\n", 0, api.ErrArg},
		"a day below 0":                {"entry -1 x\n  a 5\n  b -5\n", 0, api.ErrArg},
		"a day after all":              {good + "entry 4001 x\n  a 5\n  b -5\n", 3, api.ErrArg},
		"no text":                      {good + "entry 3 \n  a 5\n  b -5\n", 3, api.ErrForm},
		"text with a blank first":      {good + "entry 3  x\n  a 5\n  b -5\n", 3, api.ErrForm},
		"text with a blank behind":     {"entry 3 x \n  a 5\n  b -5\n", 0, api.ErrForm},
		"text with a carriage return":  {"entry 3 x\r\n  a 5\n  b -5\n", 0, api.ErrForm},
		"text that is not utf-8":       {"entry 3 \xff\n  a 5\n  b -5\n", 0, api.ErrForm},
		"no lines":                     {good + "entry 3 x\n", 3, api.ErrNone},
		"one line":                     {half + good, 0, api.ErrNone},
		"too many lines":               {good + "entry 3 x\n" + strings.Repeat("  a 5\n", 21), 3, api.ErrLarge},
		"one blank before an account":  {half + " b -5\n", 0, api.ErrNone}, // it is no line of this entry, which is posted first
		"one blank after two lines":    {good + " b -5\n", 3, api.ErrSyntax},
		"three blanks":                 {half + "   b -5\n", 2, api.ErrSyntax},
		"a tab before an account":      {half + "\tb -5\n", 0, api.ErrNone},
		"two blanks alone":             {half + "  \n", 2, api.ErrSyntax},
		"no cents":                     {half + "  b\n", 2, api.ErrSyntax},
		"a blank, and no cents":        {half + "  b \n", 2, api.ErrSyntax},
		"two blanks before cents":      {half + "  b  -5\n", 2, api.ErrSyntax},
		"a blank behind":               {half + "  b -5 \n", 2, api.ErrSyntax},
		"a word more":                  {half + "  b -5 5\n", 2, api.ErrSyntax},
		"a word before":                {half + "  a b -5\n", 2, api.ErrSyntax},
		"cents with a 0":               {half + "  b -05\n", 2, api.ErrSyntax},
		"cents with a sign":            {half + "  b +5\n", 2, api.ErrSyntax},
		"cents of -0":                  {half + "  b -0\n", 2, api.ErrSyntax},
		"cents with a point":           {half + "  b -5.0\n", 2, api.ErrSyntax},
		"cents with 11 digits":         {half + "  b -12345678901\n", 2, api.ErrSyntax},
		"cents with 10 digits":         {half + "  b -1234567890\n", 0, api.ErrArg},
		"cents of 0":                   {half + "  b -5\n  c 0\n", 0, api.ErrArg},
		"an account that is no key":    {good + half + "  B -5\n", 3, api.ErrName},
		"an account that is empty":     {half + "   -5\n", 0, api.ErrName},
		"an account twice":             {half + "  a -5\n", 0, api.ErrTwice},
		"a sum":                        {half + "  b -4\n", 0, api.ErrSum},
		"out of order":                 {good + "entry 2 x\n  a 5\n  b -5\n", 3, api.ErrOrder},
		"no line feed behind cents":    {half + "  b -5", 2, api.ErrSyntax},
		"no line feed behind text":     {good + "entry 3 x", 3, api.ErrSyntax},
		"no line feed behind cancel":   {good + "cancel 1", 3, api.ErrSyntax},
		"only a word":                  {"entry", 0, api.ErrSyntax},
		"a byte":                       {"\x00", 0, api.ErrSyntax},
		"cancel nothing":               {good + "cancel\n", 3, api.ErrSyntax},
		"cancel, a blank":              {good + "cancel \n", 3, api.ErrSyntax},
		"cancel a word":                {good + "cancel x\n", 3, api.ErrSyntax},
		"cancel two":                   {good + good + "cancel 1 2\n", 6, api.ErrSyntax},
		"cancel, two blanks":           {good + "cancel  1\n", 3, api.ErrSyntax},
		"cancel, a blank behind":       {good + "cancel 1 \n", 3, api.ErrSyntax},
		"cancel with a 0":              {good + "cancel 01\n", 3, api.ErrSyntax},
		"cancel 11 digits":             {good + "cancel 12345678901\n", 3, api.ErrSyntax},
		"cancel 10 digits":             {good + "cancel 1234567890\n", 3, api.ErrNone},
		"cancel 0":                     {good + "cancel 0\n", 3, api.ErrNone},
		"cancel below 0":               {good + "cancel -1\n", 3, api.ErrNone},
		"cancel what is not there":     {good + "cancel 2\n", 3, api.ErrNone},
		"cancel before it is there":    {"cancel 1\n" + good, 0, api.ErrNone},
		"cancel twice":                 {good + "cancel 1\ncancel 1\n", 4, api.ErrState},
		"cancel a cancelling":          {good + "cancel 1\ncancel 2\n", 4, api.ErrState},
		"lines of a cancelling":        {good + "cancel 1\n  a -5\n  b 5\n", 4, api.ErrSyntax},
		"lines of a wrong cancelling":  {good + "cancel 7\n  a -5\n", 4, api.ErrSyntax},
		"a wrong line of a cancelling": {good + "cancel x\n  a -5\n", 3, api.ErrSyntax},
		"a line before its entry":      {"entry 3 \n  a\n  b -5\n", 1, api.ErrSyntax},
		"the first line of two":        {"entry 3 x\n  a\n  b\n", 1, api.ErrSyntax},
		"the entry before its lines":   {"entry x\n  a\n  b\n", 0, api.ErrSyntax},
		"the last line of many":        {"entry 3 x\n" + strings.Repeat("  a 5\n", 30) + "  a\n", 31, api.ErrSyntax},
		"the first entry first":        {half + "?\n", 0, api.ErrNone},
		"what is before it is right":   {good + good + "?\n", 6, api.ErrSyntax},
	} {
		if y, n, e := till.Read(x.text); y != nil || n != x.at || e != x.want {
			t.Errorf("%s: %v %d %d", name, y, n, e)
		}
	}
}

// P7.5: bounds of what is read.
func TestReadLimits(t *testing.T) {
	one := "entry 3 x\n  a 1\n  b -1\n"
	if x, n, e := till.Read(strings.Repeat(one, api.MaxEntries+1)); x != nil || n != 3*api.MaxEntries || e != api.ErrFull {
		t.Error(n, e)
	}
	if x, n, e := till.Read(strings.Repeat(one, api.MaxEntries) + "cancel 1\n"); x != nil || n != 3*api.MaxEntries || e != api.ErrFull {
		t.Error(n, e)
	}
	full := read(t, strings.Repeat(one, api.MaxEntries))
	stands(t, full, named("a", api.MaxEntries), named("b", -api.MaxEntries))
	much := "entry 3 x\n  a 1000000000\n  b -1000000000\n"
	if x, n, e := till.Read(strings.Repeat(much, 1_000) + one); x != nil || n != 3_000 || e != api.ErrLarge {
		t.Error(n, e)
	}
	if x, n, e := till.Read(strings.Repeat("?", api.MaxText)); x != nil || n != 0 || e != api.ErrSyntax {
		t.Error(n, e)
	}
	if x, n, e := till.Read(strings.Repeat("?", api.MaxText+1)); x != nil || n != 0 || e != api.ErrLarge {
		t.Error(n, e)
	}
	if x, n, e := till.Read("entry 3 x\n" + strings.Repeat("  a 5\n", (api.MaxText-10)/6)); x != nil || n != 0 || e != api.ErrLarge {
		t.Error(n, e)
	}
	if x, n, e := till.Read(strings.Repeat("\n", api.MaxText)); x != nil || n != 0 || e != api.ErrSyntax {
		t.Error(n, e)
	}
}

// P7.5: a string of as many bytes as there can be, and one more.
func TestPrintLimits(t *testing.T) {
	from, to, text := strings.Repeat("f", 40), strings.Repeat("t", 40), strings.Repeat("x", 60)
	wide := entry(3, text, line(from, 1), line(to, -1)) // 160 bytes
	x := till.NewLedger()
	for range api.MaxText/160 - 1 {
		post(t, x, wide)
	}
	y := read(t, printed(t, x))
	post(t, x, wide)
	s := printed(t, x)
	if len(s) != api.MaxText {
		t.Fatal(len(s))
	}
	if z := printed(t, read(t, s)); z != s {
		t.Error("another text")
	}
	post(t, y, entry(3, text[1:], line(from, 10), line(to, -10)))
	if s, e := y.Print(); s != "" || e != api.ErrLarge {
		t.Error(len(s), e)
	}
	if _, e := x.Cancel(1); e != api.OK {
		t.Fatal(e)
	}
	if s, e := x.Print(); s != "" || e != api.ErrLarge {
		t.Error(len(s), e)
	}
	if n, e := x.Balance(to); n != 1-api.MaxText/160 || e != api.OK {
		t.Error(n, e)
	}
}

// The forms of lines that Read has to read.
var (
	entryForm  = regexp.MustCompile(`^entry (0|-?[1-9][0-9]{0,9}) ((?s).*)\n$`)
	lineForm   = regexp.MustCompile(`^  ([^ ]*) (0|-?[1-9][0-9]{0,9})\n$`)
	cancelForm = regexp.MustCompile(`^cancel (0|-?[1-9][0-9]{0,9})\n$`)
)

// readSlowly is Read by the forms of lines.
func readSlowly(text string) (*till.Ledger, int, api.Errno) {
	x := till.NewLedger()
	lines := strings.SplitAfter(text, "\n")
	if lines[len(lines)-1] == "" {
		lines = lines[:len(lines)-1]
	}
	for at := 0; at < len(lines); {
		head := at
		var e api.Errno
		if m := cancelForm.FindStringSubmatch(lines[at]); m != nil {
			if at++; at < len(lines) && strings.HasPrefix(lines[at], "  ") {
				return nil, at, api.ErrSyntax
			}
			no, _ := strconv.Atoi(m[1])
			_, e = x.Cancel(no)
		} else if m := entryForm.FindStringSubmatch(lines[at]); m != nil {
			day, _ := strconv.Atoi(m[1])
			y := entry(day, m[2])
			for at++; at < len(lines) && strings.HasPrefix(lines[at], "  "); at++ {
				m := lineForm.FindStringSubmatch(lines[at])
				if m == nil {
					return nil, at, api.ErrSyntax
				}
				cents, _ := strconv.Atoi(m[2])
				y.Lines = append(y.Lines, line(m[1], cents))
			}
			_, e = x.Post(y)
		} else {
			return nil, at, api.ErrSyntax
		}
		if e != api.OK {
			return nil, head, e
		}
	}
	return x, 0, api.OK
}

// P7.5 and Z10: Read reads what Print writes, and nothing else.
func TestReadOfPrint(t *testing.T) {
	r := rand.New(rand.NewSource(78))
	errors := map[api.Errno]int{}
	for range 4_000 {
		x, b := till.NewLedger(), &book{}
		for range r.Intn(8) {
			b.step(t, r, x)
		}
		s := printed(t, x)
		if r.Intn(20) == 0 {
			sameLedgers(t, x, read(t, s))
		}
		for range 10 {
			text := changed(r, s)
			y, n, e := till.Read(text)
			z, m, f := readSlowly(text)
			if n != m || e != f || (y == nil) != (e != api.OK) {
				t.Fatalf("%q: %d %d, not %d %d", text, n, e, m, f)
			}
			errors[e]++
			if e == api.OK && (printed(t, y) != text || !slices.Equal(y.Trial(), z.Trial())) {
				t.Fatalf("%q: %q", text, printed(t, y))
			}
		}
	}
	for _, e := range []api.Errno{api.OK, api.ErrForm, api.ErrName, api.ErrNone, api.ErrState, api.ErrSyntax, api.ErrSum, api.ErrArg, api.ErrOrder} {
		if errors[e] < 20 {
			t.Error("seldom", e, errors[e])
		}
	}
}

// changed is a text in which a byte is another one, is new, or is gone, or a line is twice or gone.
func changed(r *rand.Rand, s string) string {
	if s == "" {
		return strings.Repeat("\n", r.Intn(2))
	}
	b := []byte(s)
	i := r.Intn(len(b))
	c := "k0 \n-19xec"[r.Intn(10)]
	lines := strings.SplitAfter(s, "\n")
	k := r.Intn(len(lines))
	switch r.Intn(6) {
	case 0:
		b[i] = c
	case 1:
		b = slices.Insert(b, i, c)
	case 2:
		b = slices.Delete(b, i, i+1)
	case 3:
		return strings.Join(slices.Insert(lines, k, lines[r.Intn(len(lines))]), "")
	case 4:
		return strings.Join(slices.Delete(lines, k, k+1), "")
	case 5:
		return s[:i]
	}
	return string(b)
}
