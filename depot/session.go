package depot

import (
	"slices"
	"strconv"
	"strings"

	"coilrack/api"
	"coilrack/vend"
)

// done is the last line of a command that has no error.
const done = "ok"

// console is what the commands of a session work on.
type console struct {
	copies map[string]api.Wallet // of the wallet, by site; empty if there is none
	vendor *vend.Machine         // nil if there is none
}

// action does what a command is for, and returns its lines.
type action func(words []string, numbers []int) ([]string, api.Errno)

// command is a kind of lines: its name, words, and then numbers.
type command struct {
	words   int
	more    bool // whether there can be more words
	numbers int
	do      action
}

// Session executes the lines of a string.
func Session(text string) string {
	if len(text) > api.MaxText {
		return failed(api.ErrLarge) + "\n"
	}
	c := &console{}
	commands := c.commands()
	var replies strings.Builder
	for line := range strings.Lines(text) {
		line = strings.TrimSuffix(line, "\n")
		if line == "" {
			continue
		}
		for _, reply := range execute(commands, line) {
			replies.WriteString(reply + "\n")
		}
	}
	return replies.String()
}

// commands returns all commands by name.
func (c *console) commands() map[string]command {
	return map[string]command{
		"wallet":  {words: 1, more: true, do: c.open},
		"credit":  {words: 1, numbers: 1, do: c.withCopies(c.credit)},
		"give":    {words: 2, numbers: 1, do: c.withCopies(c.give)},
		"spend":   {words: 1, numbers: 1, do: c.withCopies(c.spend)},
		"merge":   {words: 2, do: c.withCopies(c.merge)},
		"rights":  {words: 2, do: c.withCopies(c.rights)},
		"machine": {numbers: 2, do: c.build},
		"coin":    {numbers: 1, do: c.withMachine(c.coin)},
		"press":   {words: 1, do: c.withMachine(c.press)},
		"back":    {do: c.withMachine(c.back)},
		"load":    {words: 1, numbers: 1, do: c.withMachine(c.load)},
		"audit":   {do: c.withMachine(c.audit)},
	}
}

// execute returns the replies to a line.
func execute(commands map[string]command, line string) []string {
	words := strings.Split(line, " ")
	x, ok := commands[words[0]]
	if !ok || slices.Contains(words, "") {
		return []string{failed(api.ErrSyntax)}
	}
	words, numbers, ok := x.read(words[1:])
	if !ok {
		return []string{failed(api.ErrSyntax)}
	}
	replies, e := x.do(words, numbers)
	if e != api.OK {
		return []string{failed(e)}
	}
	return replies
}

// read reads what follows the name of a command; false if it has another form.
func (x command) read(rest []string) ([]string, []int, bool) {
	n := len(rest) - x.numbers
	if n < x.words || n > x.words && !x.more {
		return nil, nil, false
	}
	numbers, ok := readNumbers(rest[n:], maxTyped)
	return rest[:n], numbers, ok
}

// withCopies lets an action be done only if there is a wallet with all sites that are named.
func (c *console) withCopies(do action) action {
	return func(sites []string, numbers []int) ([]string, api.Errno) {
		if len(c.copies) == 0 {
			return nil, api.ErrState
		}
		for _, site := range sites {
			if _, ok := c.copies[site]; !ok {
				return nil, api.ErrNone
			}
		}
		return do(sites, numbers)
	}
}

// withMachine lets an action be done only if there is a machine.
func (c *console) withMachine(do action) action {
	return func(words []string, numbers []int) ([]string, api.Errno) {
		if c.vendor == nil {
			return nil, api.ErrState
		}
		return do(words, numbers)
	}
}

func (c *console) open(sites []string, _ []int) ([]string, api.Errno) {
	w, e := Empty(sites)
	if e != api.OK {
		return nil, e
	}
	c.copies = map[string]api.Wallet{}
	for _, site := range sites {
		c.copies[site] = w // no function changes a wallet that it is given: copies can share it
	}
	return []string{done}, api.OK
}

func (c *console) credit(sites []string, cents []int) ([]string, api.Errno) {
	return c.change(sites[0], func(w api.Wallet) (api.Wallet, api.Errno) { return Credit(w, sites[0], cents[0]) })
}

func (c *console) give(sites []string, cents []int) ([]string, api.Errno) {
	return c.change(sites[0], func(w api.Wallet) (api.Wallet, api.Errno) { return Give(w, sites[0], sites[1], cents[0]) })
}

func (c *console) spend(sites []string, cents []int) ([]string, api.Errno) {
	return c.change(sites[0], func(w api.Wallet) (api.Wallet, api.Errno) { return Spend(w, sites[0], cents[0]) })
}

// change changes the copy of a site, and replies with its rights there.
func (c *console) change(site string, by func(api.Wallet) (api.Wallet, api.Errno)) ([]string, api.Errno) {
	w, e := by(c.copies[site])
	if e != api.OK {
		return nil, e
	}
	c.copies[site] = w
	return c.rights([]string{site, site}, nil)
}

func (c *console) merge(sites []string, _ []int) ([]string, api.Errno) {
	w, e := Merge(c.copies[sites[0]], c.copies[sites[1]])
	if e != api.OK {
		return nil, e
	}
	c.copies[sites[0]] = w
	n, e := Balance(w)
	return []string{doneWith(n)}, e
}

func (c *console) rights(sites []string, _ []int) ([]string, api.Errno) {
	n, e := Rights(c.copies[sites[0]], sites[1])
	return []string{doneWith(n)}, e
}

func (c *console) build(_ []string, numbers []int) ([]string, api.Errno) {
	m, e := vend.New(api.Config{
		Tubes:   []api.Tube{{Value: 10, Count: 5, Most: 20}, {Value: 50, Count: 5, Most: 20}, {Value: 100, Count: 5, Most: 20}},
		Takes:   []int{10, 50, 100, 200},
		Slots:   []api.Slot{{Key: "a", Product: "can", Price: numbers[0], Most: numbers[1], Count: numbers[1]}},
		Highest: 1_000,
	})
	if e != api.OK {
		return nil, e
	}
	c.vendor = m
	return []string{done}, api.OK
}

func (c *console) coin(_ []string, cents []int) ([]string, api.Errno) {
	e := c.vendor.Insert(cents[0])
	return []string{doneWith(c.vendor.Audit().Credit)}, e
}

func (c *console) press(slots []string, _ []int) ([]string, api.Errno) {
	sale, e := c.vendor.Press(slots[0])
	return []string{joined(sale.Paid), done}, e
}

func (c *console) back(_ []string, _ []int) ([]string, api.Errno) {
	coins := c.vendor.Back()
	if len(coins) == 0 {
		return []string{done}, api.OK
	}
	return []string{joined(coins), done}, api.OK
}

func (c *console) load(slots []string, many []int) ([]string, api.Errno) {
	return []string{done}, c.vendor.Load(slots[0], many[0])
}

func (c *console) audit(_ []string, _ []int) ([]string, api.Errno) {
	a := c.vendor.Audit()
	return []string{joined([]int{a.In, a.Out, a.Box, a.Credit}), done}, api.OK
}

// doneWith is the last line of a command that answers with a number.
func doneWith(n int) string { return done + " " + strconv.Itoa(n) }

// failed is the line of a command that has an error.
func failed(e api.Errno) string { return "error " + strconv.Itoa(int(e)) }
