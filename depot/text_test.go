package depot_test

import (
	"math/rand"
	"reflect"
	"regexp"
	"slices"
	"strconv"
	"strings"
	"testing"

	"coilrack/api"
	"coilrack/depot"
)

// printed is the text of a wallet with nothing wrong.
func printed(t *testing.T, w api.Wallet) string {
	t.Helper()
	s, e := depot.Print(w)
	if e != api.OK {
		t.Fatal(e, w)
	}
	return s
}

// parsed is the wallet of a text with nothing wrong.
func parsed(t *testing.T, text string) api.Wallet {
	t.Helper()
	w, n, e := depot.Parse(text)
	if n != 0 || e != api.OK {
		t.Fatalf("%q: %d %d", text, n, e)
	}
	return w
}

// P8.3: a wallet as a text, and back.
func TestPrint(t *testing.T) {
	shops := three()
	shops.Sites = []string{"a-1", "a0", "shop_2"}
	for text, w := range map[string]api.Wallet{
		"wallet a b c\na 100 7 11 20\nb 5 50 13 30\nc 3 2 40 1\n":                 three(),
		"wallet a-1 a0 shop_2\na-1 100 7 11 20\na0 5 50 13 30\nshop_2 3 2 40 1\n": shops,
		"wallet a\na 0 0\n": even(1, 0, 0),
		"wallet a b\na 1000000000 0 7\nb 0 1000000000 7\n": even(2, api.MaxCents, 7),
	} {
		if s, e := depot.Print(w); s != text || e != api.OK {
			t.Errorf("%q %d, not %q", s, e, text)
		}
		back, n, e := depot.Parse(text)
		if n != 0 {
			t.Errorf("%q: %d", text, n)
		}
		isWallet(t, text, back, e, w)
	}
	for name, w := range goodWallets() {
		isWallet(t, name, parsed(t, printed(t, w)), api.OK, w)
	}
}

// P8.3: the longest text that there is.
func TestPrintLimits(t *testing.T) {
	w := even(api.MaxKiosks, api.MaxCents, api.MaxCents)
	for i := range w.Sites {
		w.Sites[i] = strings.Repeat(w.Sites[i], api.MaxName)
		w.Rights[i] = slices.Repeat([]int{api.MaxCents}, api.MaxKiosks)
	}
	s := printed(t, w)
	if want := 6 + 12*41 + 1 + 12*(40+13*11+1); len(s) != want {
		t.Error(len(s), want)
	}
	isWallet(t, "the longest", parsed(t, s), api.OK, w)
}

// P8.3: what is no wallet, and in which line.
func TestParseErrors(t *testing.T) {
	good := "wallet a b\na 100 40 0\nb 0 0 30\n"
	var thirteen strings.Builder
	thirteen.WriteString("wallet " + strings.Join(names(13), " ") + "\n")
	for _, site := range names(13) {
		thirteen.WriteString(site + strings.Repeat(" 0", 14) + "\n")
	}
	for name, x := range map[string]struct {
		text string
		at   int
		want api.Errno
	}{
		"nothing":                        {"", 0, api.ErrSyntax},
		"an empty line":                  {"\n", 0, api.ErrSyntax},
		"a word without a line feed":     {"wallet", 0, api.ErrSyntax},
		"another word":                   {"wallets a\na 0 0\n", 0, api.ErrSyntax},
		"a capital":                      {"Wallet a\na 0 0\n", 0, api.ErrSyntax},
		"no word":                        {" a\na 0 0\n", 0, api.ErrSyntax},
		"no word at all":                 {"a\na 0 0\n", 0, api.ErrSyntax},
		"a blank first":                  {" wallet a\na 0 0\n", 0, api.ErrSyntax},
		"a tab":                          {"wallet\ta\na 0 0\n", 0, api.ErrSyntax},
		"an empty line first":            {"\n" + good, 0, api.ErrSyntax},
		"an empty line between":          {"wallet a b\n\na 100 40 0\nb 0 0 30\n", 1, api.ErrSyntax},
		"no line feed behind the sites":  {"wallet a b", 0, api.ErrSyntax},
		"no line feed behind a site":     {"wallet a b\na 100 40 0", 1, api.ErrSyntax},
		"no line feed at the end":        {good[:len(good)-1], 2, api.ErrSyntax},
		"all site lines are missing":     {"wallet a b\n", 1, api.ErrSyntax},
		"a site line is missing":         {"wallet a b\na 100 40 0\n", 2, api.ErrSyntax},
		"another site line is missing":   {"wallet a b\nb 0 0 30\n", 1, api.ErrSyntax},
		"a line too much":                {good + "c 0 0 0\n", 3, api.ErrSyntax},
		"a line twice":                   {good + "b 0 0 30\n", 3, api.ErrSyntax},
		"an empty line too much":         {good + "\n", 3, api.ErrSyntax},
		"a blank too much":               {good + " ", 3, api.ErrSyntax},
		"two wallets":                    {good + good, 3, api.ErrSyntax},
		"the order of the site lines":    {"wallet a b\nb 0 0 30\na 100 40 0\n", 1, api.ErrSyntax},
		"another site":                   {"wallet a b\na 100 40 0\nc 0 0 30\n", 2, api.ErrSyntax},
		"a longer site":                  {"wallet a b\nab 100 40 0\nb 0 0 30\n", 1, api.ErrSyntax},
		"no site":                        {"wallet a b\n100 40 0\nb 0 0 30\n", 1, api.ErrSyntax},
		"a number too few":               {"wallet a b\na 100 40\nb 0 0 30\n", 1, api.ErrSyntax},
		"a number too many":              {"wallet a b\na 100 40 0 0\nb 0 0 30\n", 1, api.ErrSyntax},
		"only a site":                    {"wallet a b\na\nb 0 0 30\n", 1, api.ErrSyntax},
		"two blanks":                     {"wallet a b\na  100 40 0\nb 0 0 30\n", 1, api.ErrSyntax},
		"two blanks for a number":        {"wallet a b\na 100  0\nb 0 0 30\n", 1, api.ErrSyntax},
		"a blank before a site":          {"wallet a b\n a 100 40 0\nb 0 0 30\n", 1, api.ErrSyntax},
		"a blank behind":                 {"wallet a b\na 100 40 0 \nb 0 0 30\n", 1, api.ErrSyntax},
		"a carriage return":              {"wallet a b\na 100 40 0\r\nb 0 0 30\n", 1, api.ErrSyntax},
		"a tab in a site line":           {"wallet a b\na 100\t40 0\nb 0 0 30\n", 1, api.ErrSyntax},
		"no number":                      {"wallet a b\na 100 x 0\nb 0 0 30\n", 1, api.ErrSyntax},
		"a number with a 0":              {"wallet a b\na 100 040 0\nb 0 0 30\n", 1, api.ErrSyntax},
		"two zeros":                      {"wallet a b\na 100 40 00\nb 0 0 30\n", 1, api.ErrSyntax},
		"a sign":                         {"wallet a b\na 100 40 +0\nb 0 0 30\n", 1, api.ErrSyntax},
		"-0":                             {"wallet a b\na 100 40 -0\nb 0 0 30\n", 1, api.ErrSyntax},
		"a point":                        {"wallet a b\na 100 40.0 0\nb 0 0 30\n", 1, api.ErrSyntax},
		"11 digits":                      {"wallet a b\na 10000000000 40 0\nb 0 0 30\n", 1, api.ErrSyntax},
		"11 digits below 0":              {"wallet a b\na -10000000000 40 0\nb 0 0 30\n", 1, api.ErrSyntax},
		"the first one of two":           {"wallet a b\na 100 40\nb 0 0\n", 1, api.ErrSyntax},
		"a line before what is too much": {"wallet a b\na 100 40 0\nb 0 0 x\nc\n", 2, api.ErrSyntax},
		"a line before what is missing":  {"wallet a b\na 100\n", 1, api.ErrSyntax},
		"a line feed before the sum":     {"wallet a b\na 100 40 0\nb 0 0 31", 2, api.ErrSyntax},
		"a line before the sites":        {"wallet b a\nb 0 0 0\na 0 0 x\n", 2, api.ErrSyntax},
		"a site that is no number":       {"wallet 5\n5 0\n", 1, api.ErrSyntax},

		"a blank, and no sites":              {"wallet \n", 0, api.ErrSyntax},
		"a blank, and a line of nothing":     {"wallet \n 0 0\n", 0, api.ErrSyntax},
		"a blank, and a site line":           {"wallet \na 0 0\n", 0, api.ErrSyntax},
		"two blanks, and no sites":           {"wallet  \n 0 0 0\n 0 0 0\n", 0, api.ErrSyntax},
		"two blanks before the sites":        {"wallet  a\na 0 0\n", 0, api.ErrSyntax},
		"two blanks, and a line of nothing":  {"wallet  a\n 0 0 0\na 0 0 0\n", 0, api.ErrSyntax},
		"two blanks between the sites":       {"wallet a  c\na 0 0 0 0\n 0 0 0 0\nc 0 0 5 0\n", 0, api.ErrSyntax},
		"a blank behind the sites":           {"wallet a b \na 100 40 0\nb 0 0 30\n", 0, api.ErrSyntax},
		"two blanks behind the sites":        {"wallet a b  \na 100 40 0\nb 0 0 30\n", 0, api.ErrSyntax},
		"a blank behind a site that is none": {"wallet A \nA 0 0\n", 0, api.ErrSyntax},
		"a blank behind, and no line feed":   {"wallet a ", 0, api.ErrSyntax},
		"a blank before what is too much":    {"wallet  a\na 0 0\na 0 0\n", 0, api.ErrSyntax},

		"no sites":                {"wallet\n", 0, api.ErrNone},
		"no sites, but a line":    {"wallet\na 0 0\n", 1, api.ErrSyntax},
		"13 sites":                {thirteen.String(), 0, api.ErrLarge},
		"a site that is no key":   {"wallet a B\na 0 0 0\nB 0 0 0\n", 0, api.ErrName},
		"a number as a site":      {"wallet 5\n5 0 0\n", 0, api.ErrName},
		"a tab as a site":         {"wallet \t\n\t 0 0\n", 0, api.ErrName},
		"equal sites":             {"wallet a a\na 0 0 0\na 0 0 0\n", 0, api.ErrOrder},
		"falling sites":           {"wallet b a\nb 0 0 0\na 0 0 0\n", 0, api.ErrOrder},
		"name before numbers":     {"wallet A\nA -1 0\n", 0, api.ErrName},
		"a right below 0":         {"wallet a\na -1 0\n", 0, api.ErrArg},
		"used below 0":            {"wallet a\na 5 -5\n", 0, api.ErrArg},
		"10 digits":               {"wallet a\na 9999999999 0\n", 0, api.ErrArg},
		"10 digits below 0":       {"wallet a\na 5 -9999999999\n", 0, api.ErrArg},
		"a cent too much":         {"wallet a\na 1000000001 0\n", 0, api.ErrArg},
		"used more than was paid": {"wallet a b\na 100 40 0\nb 0 0 41\n", 0, api.ErrRule},
		"given more than paid":    {"wallet a b\na 100 101 0\nb 0 0 0\n", 0, api.ErrRule},
	} {
		w, n, e := depot.Parse(x.text)
		isNoWallet(t, name, w, e, x.want)
		if n != x.at {
			t.Errorf("%s: line %d, not %d", name, n, x.at)
		}
	}
}

// P8.3: bounds of what is read.
func TestParseLimits(t *testing.T) {
	isLarge := func(name, text string, at int, want api.Errno) {
		t.Helper()
		w, n, e := depot.Parse(text)
		isNoWallet(t, name, w, e, want)
		if n != at {
			t.Errorf("%s: %d", name, n)
		}
	}
	good := "wallet a\na 0 0\n"
	isLarge("as many bytes as can be", good+strings.Repeat("\n", api.MaxText-len(good)), 2, api.ErrSyntax)
	isLarge("a byte more", good+strings.Repeat("\n", api.MaxText-len(good)+1), 0, api.ErrLarge)
	isLarge("a word", strings.Repeat("w", api.MaxText), 0, api.ErrSyntax)
	isLarge("a longer word", strings.Repeat("w", api.MaxText+1), 0, api.ErrLarge)
	isLarge("line feeds", strings.Repeat("\n", api.MaxText), 0, api.ErrSyntax)
	isLarge("blanks", strings.Repeat(" ", api.MaxText), 0, api.ErrSyntax)
	isLarge("blanks behind the word", "wallet"+strings.Repeat(" ", api.MaxText-7)+"\n", 0, api.ErrSyntax)
	isLarge("many sites", "wallet"+strings.Repeat(" a", 300)+"\n"+strings.Repeat("a"+strings.Repeat(" 0", 301)+"\n", 300), 0, api.ErrLarge)
}

// The forms of lines that Parse has to read.
var (
	headForm = regexp.MustCompile(`^wallet((?: [^ \n]+)*)\n$`)
	siteForm = regexp.MustCompile(`^([^ \n]+)((?: (?:0|-?[1-9][0-9]{0,9}))*)\n$`)
)

// parseSlowly is Parse by the forms of lines, without CheckWallet: false if a line has another one.
func parseSlowly(text string) (api.Wallet, int, bool) {
	lines := strings.SplitAfter(text, "\n")
	if lines[len(lines)-1] == "" {
		lines = lines[:len(lines)-1]
	}
	if len(lines) == 0 {
		return api.Wallet{}, 0, false
	}
	head := headForm.FindStringSubmatch(lines[0])
	if head == nil {
		return api.Wallet{}, 0, false
	}
	var w api.Wallet
	w.Sites = strings.Split(head[1], " ")[1:]
	for i, site := range w.Sites {
		if i+1 == len(lines) {
			return api.Wallet{}, i + 1, false
		}
		m := siteForm.FindStringSubmatch(lines[i+1])
		if m == nil || m[1] != site || strings.Count(m[2], " ") != len(w.Sites)+1 {
			return api.Wallet{}, i + 1, false
		}
		var row []int
		for _, word := range strings.Fields(m[2]) {
			n, _ := strconv.Atoi(word)
			row = append(row, n)
		}
		w.Rights = append(w.Rights, row[:len(w.Sites):len(w.Sites)])
		w.Used = append(w.Used, row[len(w.Sites)])
	}
	if n := len(w.Sites) + 1; len(lines) > n {
		return api.Wallet{}, n, false
	}
	return w, 0, true
}

// otherText is a text in which a byte is another one, is new, or is gone, a line is twice or gone, or the rest is.
func otherText(r *rand.Rand, s string) string {
	b := []byte(s)
	i := r.Intn(len(b))
	c := "ab0 \n-19wB"[r.Intn(10)]
	lines := strings.SplitAfter(s, "\n")
	k := r.Intn(len(lines))
	switch r.Intn(6) {
	case 0:
		b[i] = c
	case 1:
		b = slices.Insert(b, i, c)
	case 2:
		b = slices.Delete(b, i, i+1)
	case 3:
		return strings.Join(slices.Insert(lines, k, lines[r.Intn(len(lines))]), "")
	case 4:
		return strings.Join(slices.Delete(lines, k, k+1), "")
	case 5:
		return s[:i]
	}
	return string(b)
}

// P8.3 and Z10: Parse reads what Print writes, and nothing else.
func TestParseOfPrint(t *testing.T) {
	r := rand.New(rand.NewSource(83))
	errors := map[api.Errno]int{}
	for range 3_000 {
		w := someWallet(r, 1+r.Intn(4), 20)
		s := printed(t, w)
		isWallet(t, s, parsed(t, s), api.OK, w)
		for range 10 {
			text := otherText(r, s)
			want, at, ok := parseSlowly(text)
			e := api.ErrSyntax
			if ok {
				e = depot.CheckWallet(want)
			}
			if e != api.OK {
				want = api.Wallet{}
			}
			errors[e]++
			back, n, f := depot.Parse(text)
			if !reflect.DeepEqual(back, want) || n != at || f != e {
				t.Fatalf("%q: %v %d %d, not %d %d", text, back, n, f, at, e)
			}
			if e == api.OK && printed(t, back) != text {
				t.Fatalf("%q: %q", text, printed(t, back))
			}
		}
	}
	for _, e := range []api.Errno{api.OK, api.ErrSyntax, api.ErrArg, api.ErrRule} {
		if errors[e] < 20 {
			t.Error("seldom", e, errors[e])
		}
	}
}
