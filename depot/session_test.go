package depot_test

import (
	"fmt"
	"math/rand"
	"regexp"
	"slices"
	"strconv"
	"strings"
	"testing"

	"coilrack/api"
	"coilrack/depot"
	"coilrack/vend"
)

// replies says that a session of these lines has just these replies.
func replies(t *testing.T, lines []string, want ...string) {
	t.Helper()
	var all strings.Builder
	for _, s := range want {
		all.WriteString(s + "\n")
	}
	text := strings.Join(lines, "\n")
	for _, end := range []string{"", "\n"} {
		if got := depot.Session(text + end); got != all.String() {
			t.Errorf("%q:\n%q, not\n%q", text+end, got, all.String())
		}
	}
}

// P8.6: the example of the chapter, and a machine.
func TestSession(t *testing.T) {
	replies(t, []string{"wallet a b", "credit a 100", "give a b 40", "spend b 1", "rights b b", "rights a b", "merge b a", "spend b 41", "spend b 40", "rights b b", "rights a b", "rights b a", "merge a b", "merge b a"},
		"ok", "ok 100", "ok 60", "error 16", "ok 0", "ok 40", "ok 100", "error 16", "ok 0", "ok 0", "ok 40", "ok 60", "ok 60", "ok 60")
	replies(t, []string{"machine 80 3", "coin 100", "coin 10", "press a", "audit", "coin 50", "coin 200", "back", "back", "press a", "coin 200", "press a", "coin 10", "audit"},
		"ok", "ok 100", "ok 110", "3 0 0", "ok", "110 30 0 0", "ok", "ok 50", "ok 250", "50 200", "ok", "ok", "error 16", "ok 200", "2 0 1", "ok", "ok 10", "310 150 200 10", "ok")
}

// P8.6: lines that have no replies, and sessions without lines.
func TestEmptyLines(t *testing.T) {
	for text, want := range map[string]string{
		"": "", "\n": "", "\n\n": "", "\n\n\n\n": "", "\nwallet a\n\n\nrights a a\n\n": "ok\nok 0\n", "x": "error 9\n", "x\n": "error 9\n", "\nx": "error 9\n", " \n": "error 9\n", "\r\n": "error 9\n",
	} {
		if got := depot.Session(text); got != want {
			t.Errorf("%q: %q, not %q", text, got, want)
		}
	}
}

// P8.6: lines of another form are error 9, before anything else is asked, and change nothing.
func TestForms(t *testing.T) {
	lines := []string{
		"hello", "Wallet a", "wallets a", "WALLET a", "wallet", "wallet ", " wallet a", "wallet  a", "wallet a ", "wallet a  b", "wallet\ta",
		"credit", "credit a", "credit 5", "credit a 5 5", "credit a b 5", "credit a x", "credit a 5x", "credit a 05", "credit a 00", "credit a -0", "credit a +5", "credit a 5.0", "credit a 1e3", "credit  a 5", "credit a  5", "credit a 5 ", " credit a 5", "credit a ", "credit a 1000000000", "credit a -1000000000", "credit a --5", "credit a -", "credit a 5\r", "credit\ta 5", "credit a\t5",
		"give", "give a b", "give a 5", "give a b c 5", "give a b 5 5", "give a b x", "give a b 1000000000", "give a  b 5", "give 5 a b",
		"spend", "spend a", "spend 5", "spend a b 5", "spend a x", "spend a 01", "spend a 1234567890", "spend a 5 ",
		"merge", "merge a", "merge a b c", "merge a ", "merge  a b", "merge a b ",
		"rights", "rights a", "rights a b c", "rights a b 5", "rights  a b",
		"machine", "machine 80", "machine 80 3 5", "machine x 3", "machine 80 x", "machine 080 3", "machine 80 03", "machine 1000000000 3", "machine 80 1000000000", "machine 80 3 ", "machine  80 3", "machine -0 3",
		"coin", "coin x", "coin 10 10", "coin 010", "coin 1000000000", "coin -", "coin ", "coin  10", "coin 10 ",
		"press", "press a b", "press ", "press a ", "press  a", "back 5", "back ", " back", "back a", "load", "load a", "load 5", "load a b", "load a 5 5", "load a 05", "load a 1000000000", "load  a 5",
		"audit a", "audit ", "Audit", "ok", "error", "error 9", " ", "  ", "\x00", "\xff", "ä", "a", "5", "jam a", "free a", "collect", "fill 10 5", "print",
	}
	wrong := slices.Repeat([]string{"error 9"}, len(lines))
	replies(t, lines, wrong...)
	for _, line := range lines {
		replies(t, []string{line}, "error 9")
	}
	start := []string{"wallet a b", "credit a 5", "machine 80 3", "coin 50"}
	end := []string{"rights a a", "rights b a", "audit", "coin 10", "back"}
	replies(t, slices.Concat(start, lines, end), slices.Concat([]string{"ok", "ok 5", "ok", "ok 50"}, wrong, []string{"ok 5", "ok 0", "0 0 0 50", "ok", "ok 60", "50 10", "ok"})...)
}

// P8.6: commands that need a wallet or a machine.
func TestNotYet(t *testing.T) {
	withSites := []string{"credit a 5", "give a b 5", "spend a 5", "merge a b", "rights a b"}
	withMachine := []string{"coin 10", "press a", "back", "load a 1", "audit"}
	all := append(slices.Clone(withSites), withMachine...)
	for _, line := range append(all, "credit A 0", "give a a 0", "coin 7", "press none", "load none 0") {
		replies(t, []string{line}, "error 11")
		replies(t, []string{"wallet b a", "machine 0 3", line}, "error 7", "error 1", "error 11")
	}
	for _, line := range withSites {
		replies(t, []string{"machine 80 3", line}, "ok", "error 11")
	}
	for _, line := range withMachine {
		replies(t, []string{"wallet a b", line}, "ok", "error 11")
	}
	replies(t, []string{"wallet b"}, "ok")
	for _, line := range []string{"credit a 5", "credit a 0", "give a b 5", "give b a 5", "give a a 0", "give b a -1", "spend a 5", "merge a b", "merge b a", "rights a b", "rights b a", "rights B b", "credit b! 5"} {
		replies(t, []string{"wallet b", line}, "ok", "error 8")
	}
}

// P8.6: the commands with a wallet, and their errors.
func TestWalletCommands(t *testing.T) {
	thirteen := "wallet " + strings.Join(names(13), " ")
	replies(t, []string{"wallet A", "wallet a 5", "wallet a a", "wallet b a", "wallet b a !", thirteen, thirteen[:len(thirteen)-2], "merge a l", "rights l a", "merge a m"},
		"error 5", "error 5", "error 7", "error 7", "error 7", "error 2", "ok", "ok 0", "ok 0", "error 8")
	replies(t, []string{"wallet a b", "credit a 0", "credit a -5", "credit a 999999999", "credit a 1", "credit a 1", "credit b 999999999", "credit b 7", "rights a b", "rights b b"},
		"ok", "error 1", "error 1", "ok 999999999", "ok 1000000000", "error 12", "ok 999999999", "error 12", "ok 0", "ok 999999999")
	replies(t, []string{"wallet a b", "credit a 9", "give a b 10", "give a a 1", "give a a 0", "give a b 0", "give a b -1", "give a b 9", "give a b 1", "give b a 9", "merge b a", "give b a 8", "rights a a", "merge a b", "rights a a", "rights b b"},
		"ok", "ok 9", "error 16", "error 6", "error 6", "error 1", "error 1", "ok 0", "error 16", "error 16", "ok 9", "ok 1", "ok 0", "ok 9", "ok 8", "ok 1")
	replies(t, []string{"wallet a b", "credit a 9", "spend a 10", "spend a 0", "spend a -9", "spend a 4", "spend b 1", "spend a 5", "spend a 1", "rights a a", "merge b a", "merge b b"},
		"ok", "ok 9", "error 16", "error 1", "error 1", "ok 5", "error 16", "ok 0", "error 16", "ok 0", "ok 0", "ok 0")
	// Merge changes the copy of the first site alone.
	replies(t, []string{"wallet a b c", "credit a 9", "credit b 5", "merge a b", "rights b a", "rights c a", "rights a b", "merge c a", "merge c a", "rights c b"},
		"ok", "ok 9", "ok 5", "ok 14", "ok 0", "ok 0", "ok 5", "ok 14", "ok 14", "ok 5")
	// A new wallet takes the place of the old one, and one with an error does not.
	replies(t, []string{"wallet a b", "credit a 9", "wallet b a", "rights a a", "wallet a c", "rights a a", "rights a b", "credit b 1", "credit c 1"},
		"ok", "ok 9", "error 7", "ok 9", "ok", "ok 0", "error 8", "error 8", "ok 1")
	// Words can be as a number, or as a command.
	replies(t, []string{"wallet ok wallet", "credit wallet 5", "rights wallet 5", "give wallet ok 5"}, "ok", "ok 5", "error 8", "ok 0")
}

// P8.6: the commands with a machine, and their errors.
func TestMachineCommands(t *testing.T) {
	replies(t, []string{"machine 0 3", "machine -1 3", "machine 20001 3", "machine 80 -1", "machine 80 1001", "machine 999999999 3", "audit", "machine 20000 1000", "audit", "machine 1 0", "audit"},
		"error 1", "error 1", "error 1", "error 1", "error 1", "error 1", "error 11", "ok", "0 0 0 0", "ok", "ok", "0 0 0 0", "ok")
	replies(t, []string{"machine 80 3", "coin 0", "coin -10", "coin 20", "coin 500", "coin 999999999", "coin 200", "coin 200", "coin 200", "coin 200", "coin 200", "coin 10", "coin 20", "back", "coin 10"},
		"ok", "error 8", "error 8", "error 8", "error 8", "error 8", "ok 200", "ok 400", "ok 600", "ok 800", "ok 1000", "error 12", "error 8", "200 200 200 200 200", "ok", "ok 10")
	replies(t, []string{"machine 80 1", "press b", "press can", "press a", "coin 50", "press a", "coin 50", "press a", "press a", "coin 100", "press a", "audit", "back", "audit"},
		"ok", "error 8", "error 8", "error 16", "ok 50", "error 16", "ok 100", "2 0 0", "ok", "error 11", "ok 100", "error 11", "100 20 0 100", "ok", "100", "ok", "100 20 0 0", "ok")
	replies(t, []string{"machine 10 3", "load a 1", "coin 10", "press a", "load b 1", "load a 0", "load a -1", "load a 2", "load a 1", "load a 1", "coin 10", "coin 10", "coin 10", "press a"},
		"ok", "error 12", "ok 10", "0 0 0", "ok", "error 8", "error 1", "error 1", "error 12", "ok", "error 12", "ok 10", "ok 20", "ok 30", "2 0 0", "ok")
	// Of 5 fifties and 5 hundreds, and tens of which there are too few.
	replies(t, []string{"machine 30 9", "coin 100", "press a", "coin 200", "press a", "coin 200", "press a", "coin 100", "press a", "back", "audit"},
		"ok", "ok 100", "2 1 0", "ok", "ok 200", "2 1 1", "ok", "ok 200", "error 13", "ok 300", "error 13", "200 100", "ok", "300 240 200 0", "ok")
	// A new machine takes the place of the old one, and one with an error does not.
	replies(t, []string{"machine 80 3", "coin 50", "machine 0 3", "audit", "machine 70 3", "audit", "back", "coin 100", "press a"},
		"ok", "ok 50", "error 1", "0 0 0 50", "ok", "ok", "0 0 0 0", "ok", "ok", "ok 100", "3 0 0", "ok")
	// 20 tens for one can: 15 have room.
	replies(t, slices.Concat([]string{"machine 200 1"}, slices.Repeat([]string{"coin 10"}, 20), []string{"press a", "audit"}),
		slices.Concat([]string{"ok"}, credits(20), []string{"0 0 0", "ok", "200 0 50 0", "ok"})...)
}

// P8.6: the tubes of a machine: 5 coins are in each, and 15 more have room.
func TestTubes(t *testing.T) {
	for value, x := range map[int]struct {
		coin  string   // that is paid
		price string   // of which this much less is change
		paid  []string // until there is none
	}{
		10:  {"200", "190", slices.Repeat([]string{"1 0 0"}, 5)},
		50:  {"200", "150", append(slices.Repeat([]string{"0 1 0"}, 5), "5 0 0")},
		100: {"200", "100", append(slices.Repeat([]string{"0 0 1"}, 5), "0 2 0", "0 2 0", "5 1 0")},
	} {
		lines, want := []string{"machine " + x.price + " 9"}, []string{"ok"}
		for _, coins := range x.paid {
			lines = append(lines, "coin "+x.coin, "press a")
			want = append(want, "ok "+x.coin, coins, "ok")
		}
		replies(t, append(lines, "coin "+x.coin, "press a"), append(want, "ok "+x.coin, "error 13")...)

		s := strconv.Itoa(value)
		lines, want = []string{"machine " + s + " 16"}, []string{"ok"}
		for i := range 16 {
			lines = append(lines, "coin "+s, "press a", "audit")
			box := max(0, value*(i+1-15))
			want = append(want, "ok "+s, "0 0 0", "ok", fmt.Sprintf("%d 0 %d 0", value*(i+1), box), "ok")
		}
		replies(t, lines, want...)
	}
}

// credits are the replies to n tens.
func credits(n int) []string {
	var l []string
	for i := range n {
		l = append(l, "ok "+strconv.Itoa(10*(i+1)))
	}
	return l
}

// P8.6: wallets and machines know nothing of each other.
func TestBothInOneSession(t *testing.T) {
	replies(t, []string{"wallet a b", "machine 80 3", "credit a 500", "coin 100", "wallet c", "press a", "machine 90 3", "rights c c", "credit c 5", "audit"},
		"ok", "ok", "ok 500", "ok 100", "ok", "2 0 0", "ok", "ok", "ok 0", "ok 5", "0 0 0 0", "ok")
}

// P8.6: a session starts anew.
func TestSessionsKeepNothing(t *testing.T) {
	replies(t, []string{"wallet a", "machine 80 3"}, "ok", "ok")
	replies(t, []string{"credit a 5", "coin 10"}, "error 11", "error 11")
}

// P8.6: bounds of what is executed.
func TestSessionLimits(t *testing.T) {
	for name, x := range map[string]struct{ text, want string }{
		"as many line feeds as can be": {strings.Repeat("\n", api.MaxText), ""},
		"one more":                     {strings.Repeat("\n", api.MaxText+1), "error 2\n"},
		"a long line":                  {strings.Repeat("x", api.MaxText), "error 9\n"},
		"a longer line":                {strings.Repeat("x", api.MaxText+1), "error 2\n"},
		"many lines":                   {strings.Repeat("x\n", api.MaxText/2), strings.Repeat("error 9\n", api.MaxText/2)},
		"blanks":                       {strings.Repeat(" ", api.MaxText), "error 9\n"},
		"a long word":                  {"wallet " + strings.Repeat("x", api.MaxText-7), "error 5\n"},
		"many words":                   {"wallet" + strings.Repeat(" x", 99_997), "error 2\n"},
		"a long number":                {"coin " + strings.Repeat("1", api.MaxText-5), "error 9\n"},
		"more, but all empty":          {"wallet a" + strings.Repeat("\n", api.MaxText), "error 2\n"},
	} {
		if got := depot.Session(x.text); got != x.want {
			t.Errorf("%s: %.40q of %d, not %.40q of %d", name, got, len(got), x.want, len(x.want))
		}
	}
	// As many commands as fit: the thousand cans are sold, and what is too much stays in escrow until it is given back.
	lines := "wallet " + strings.Join(names(12), " ") + "\nmachine 10 1000\n" + strings.Repeat("coin 10\npress a\nmerge a l\n", 1_000)
	want := "ok\nok\n" + strings.Repeat("ok 10\n0 0 0\nok\nok 0\n", 1_000)
	n := (api.MaxText - len(lines)) / len("coin 10\npress a\nback\n")
	lines += strings.Repeat("coin 10\npress a\nback\n", n)
	want += strings.Repeat("ok 10\nerror 11\n10\nok\n", n)
	if got := depot.Session(lines); got != want || n < 5_000 {
		t.Errorf("%d bytes, not %d; %d", len(got), len(want), n)
	}
}

// The forms of lines.
var (
	sitesForm = regexp.MustCompile(`^(credit|give|spend|merge|rights)((?: [^ \n]+){1,3})$`)
	openForm  = regexp.MustCompile(`^wallet((?: [^ \n]+)+)$`)
	intForm   = regexp.MustCompile(`^(0|-?[1-9][0-9]{0,8})$`)
	// what follows each command: s is a site, n is a number
	follows = map[string]string{"credit": "sn", "give": "ssn", "spend": "sn", "merge": "ss", "rights": "ss", "machine": "nn", "coin": "n", "press": "s", "back": "", "load": "sn", "audit": ""}
)

// clerk executes lines with a wallet for each site, and a machine.
type clerk struct {
	sites   []string
	wallets []api.Wallet
	machine *vend.Machine
}

// isForm says whether words are those of a command.
func isForm(words []string) bool {
	form, ok := follows[words[0]]
	if !ok || len(words) != 1+len(form) {
		return false
	}
	for i, c := range form {
		if words[1+i] == "" || c == 'n' && !intForm.MatchString(words[1+i]) {
			return false
		}
	}
	return true
}

// line executes a line slowly.
func (c *clerk) line(s string) string {
	if s == "" {
		return ""
	}
	words := strings.Split(s, " ")
	switch {
	case openForm.MatchString(s):
		w, e := depot.Empty(words[1:])
		if e == api.OK {
			c.sites, c.wallets = words[1:], slices.Repeat([]api.Wallet{w}, len(words)-1)
		}
		return result(e, "ok")
	case !isForm(words):
		return result(api.ErrSyntax, "")
	case sitesForm.MatchString(s):
		return c.onWallets(words)
	case words[0] == "machine":
		price, _ := strconv.Atoi(words[1])
		many, _ := strconv.Atoi(words[2])
		var tubes []api.Tube
		for _, v := range []int{10, 50, 100} {
			tubes = append(tubes, api.Tube{Value: v, Count: 5, Most: 20})
		}
		m, e := vend.New(api.Config{Tubes: tubes, Takes: []int{10, 50, 100, 200}, Slots: []api.Slot{{Key: "a", Product: "can", Price: price, Most: many, Count: many}}, Highest: 1_000})
		if e == api.OK {
			c.machine = m
		}
		return result(e, "ok")
	case c.machine == nil:
		return result(api.ErrState, "")
	}
	return c.onMachine(words)
}

func result(e api.Errno, lines string) string {
	if e != api.OK {
		return fmt.Sprintf("error %d\n", e)
	}
	return lines + "\n"
}

func (c *clerk) onWallets(words []string) string {
	if c.wallets == nil {
		return result(api.ErrState, "")
	}
	var at []int
	for i, kind := range follows[words[0]] {
		if kind == 's' {
			k := slices.Index(c.sites, words[1+i])
			if k < 0 {
				return result(api.ErrNone, "")
			}
			at = append(at, k)
		}
	}
	n, _ := strconv.Atoi(words[len(words)-1])
	w, site := c.wallets[at[0]], words[1]
	var e api.Errno
	switch words[0] {
	case "credit":
		w, e = depot.Credit(w, site, n)
	case "spend":
		w, e = depot.Spend(w, site, n)
	case "give":
		w, e = depot.Give(w, site, words[2], n)
	case "merge":
		w, e = depot.Merge(w, c.wallets[at[1]])
	case "rights":
		site = words[2]
	}
	if e != api.OK {
		return result(e, "")
	}
	c.wallets[at[0]] = w
	shown, _ := depot.Rights(w, site)
	if words[0] == "merge" {
		shown, _ = depot.Balance(w)
	}
	return result(e, fmt.Sprint("ok ", shown))
}

func (c *clerk) onMachine(words []string) string {
	n, _ := strconv.Atoi(words[len(words)-1])
	switch words[0] {
	case "coin":
		e := c.machine.Insert(n)
		return result(e, fmt.Sprint("ok ", c.machine.Audit().Credit))
	case "press":
		s, e := c.machine.Press(words[1])
		return result(e, strings.Trim(fmt.Sprint(s.Paid), "[]")+"\nok")
	case "load":
		return result(c.machine.Load(words[1], n), "ok")
	case "back":
		l := strings.Trim(fmt.Sprint(c.machine.Back()), "[]")
		return strings.TrimPrefix(l+"\nok\n", "\n")
	}
	a := c.machine.Audit()
	return fmt.Sprintf("%d %d %d %d\nok\n", a.In, a.Out, a.Box, a.Credit)
}

// someLine makes up a line.
func someLine(r *rand.Rand) string {
	site := func() string { return []string{"a", "b", "c", "d"}[r.Intn(4)%(1+r.Intn(4))] }
	number := func(l ...int) string { return strconv.Itoa(l[r.Intn(len(l))]) }
	switch r.Intn(16) {
	case 0:
		return "wallet " + strings.Join(names(4)[:1+r.Intn(4)], " ")
	case 1, 2:
		return "credit " + site() + " " + number(5, 7, 100, 0, -1, 999_999_999)
	case 3, 4:
		return "give " + site() + " " + site() + " " + number(1, 3, 90, 0)
	case 5, 6:
		return "spend " + site() + " " + number(1, 2, 50, -5)
	case 7, 8:
		return "merge " + site() + " " + site()
	case 9:
		return "rights " + site() + " " + site()
	case 10:
		return "machine " + number(10, 80, 130, 20_001) + " " + number(3, 4, 1)
	case 11:
		return "load " + site() + " " + number(1, 2, 0)
	case 12:
		return []string{"back", "audit", "press b", ""}[r.Intn(4)]
	case 13:
		return "press a"
	}
	return "coin " + number(10, 50, 100, 200, 20)
}

// P8.6: sessions against single calls, line by line.
func TestSomeSessions(t *testing.T) {
	r := rand.New(rand.NewSource(87))
	seen := map[string]int{}
	for range 2_000 {
		lines := []string{"wallet a b c", "machine 80 4"}
		for range 60 {
			s := someLine(r)
			if r.Intn(12) == 0 && s != "" {
				s = strings.ReplaceAll(otherText(r, s), "\n", "")
			}
			lines = append(lines, s)
		}
		lines = lines[r.Intn(3):]
		c := &clerk{}
		var want strings.Builder
		for _, s := range lines {
			reply := c.line(s)
			want.WriteString(reply)
			seen[strings.TrimSpace(reply)]++
		}
		text := strings.Join(lines, "\n")
		if got := depot.Session(text); got != want.String() {
			t.Fatalf("%q:\n%q, not\n%q", text, got, want.String())
		}
	}
	for _, s := range []string{"ok", "error 1", "error 6", "error 8", "error 9", "error 11", "error 12", "error 13", "error 16"} {
		if seen[s] < 20 {
			t.Error("seldom", s, seen[s])
		}
	}
}

// P8.6: a line with an error changes nothing: without it all other replies are the same.
func TestErrorsChangeNoSession(t *testing.T) {
	r := rand.New(rand.NewSource(88))
	for range 300 {
		var lines, good []string
		for range 50 {
			lines = append(lines, someLine(r))
		}
		c := &clerk{}
		var want strings.Builder
		for _, s := range lines {
			if reply := c.line(s); !strings.HasPrefix(reply, "error") {
				good = append(good, s)
				want.WriteString(reply)
			}
		}
		if got := depot.Session(strings.Join(good, "\n")); got != want.String() {
			t.Fatalf("%q:\n%q, not\n%q", good, got, want.String())
		}
	}
}
