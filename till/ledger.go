package till

import (
	"maps"
	"slices"
	"strconv"

	"coilrack/api"
	"coilrack/terms"
)

// cancelWord begins the text of a cancelling, and its line in a ledger that is written.
const cancelWord = "cancel"

// Ledger keeps entries.
type Ledger struct {
	records  []record
	balances map[string]int // of each account with a line
}

// record is an entry, and the number of the one that it cancels (0 if it is no cancelling).
type record struct {
	entry   api.Entry
	cancels int
}

// CheckEntry says what is wrong with an entry.
func CheckEntry(e api.Entry) api.Errno {
	switch {
	case !terms.Between(e.Day, 0, api.MaxDay):
		return api.ErrArg
	case !terms.IsPlain(e.Text) || !terms.Between(len(e.Text), minWritten, maxWritten):
		return api.ErrForm
	case len(e.Lines) < minLines:
		return api.ErrNone
	case len(e.Lines) > maxLines:
		return api.ErrLarge
	}
	sum := 0
	for i, line := range e.Lines {
		switch {
		case !terms.IsKey(line.Account):
			return api.ErrName
		case slices.ContainsFunc(e.Lines[:i], func(other api.Line) bool { return other.Account == line.Account }):
			return api.ErrTwice
		case line.Cents == 0 || !terms.Between(line.Cents, -api.MaxCents, api.MaxCents):
			return api.ErrArg
		}
		sum += line.Cents
	}
	if sum != 0 {
		return api.ErrSum
	}
	return api.OK
}

// NewLedger makes an empty ledger.
func NewLedger() *Ledger {
	return &Ledger{balances: map[string]int{}}
}

// Post adds an entry.
func (x *Ledger) Post(e api.Entry) (int, api.Errno) {
	if err := CheckEntry(e); err != api.OK {
		return 0, err
	}
	if n := len(x.records); n > 0 && e.Day < x.records[n-1].entry.Day {
		return 0, api.ErrOrder
	}
	e.Lines = slices.Clone(e.Lines)
	return x.add(record{entry: e})
}

// Cancel posts the contrary of an entry.
func (x *Ledger) Cancel(no int) (int, api.Errno) {
	if !terms.Between(no, 1, len(x.records)) {
		return 0, api.ErrNone
	}
	old := x.records[no-1]
	if old.cancels > 0 || slices.ContainsFunc(x.records, func(r record) bool { return r.cancels == no }) {
		return 0, api.ErrState
	}
	contrary := slices.Clone(old.entry.Lines)
	for i := range contrary {
		contrary[i].Cents = -contrary[i].Cents
	}
	return x.add(record{
		entry: api.Entry{
			Day:   x.records[len(x.records)-1].entry.Day,
			Text:  cancelWord + " " + strconv.Itoa(no),
			Lines: contrary,
		},
		cancels: no,
	})
}

// Balance is the sum of an account.
func (x *Ledger) Balance(account string) (int, api.Errno) {
	if !terms.IsKey(account) {
		return 0, api.ErrName
	}
	return x.balances[account], api.OK
}

// Trial returns all accounts with their balances.
func (x *Ledger) Trial() []api.Named {
	var all []api.Named
	for _, account := range slices.Sorted(maps.Keys(x.balances)) {
		all = append(all, api.Named{Key: account, Many: x.balances[account]})
	}
	return all
}

// Lines returns the lines of an account.
func (x *Ledger) Lines(account string) ([]api.Posted, api.Errno) {
	if !terms.IsKey(account) {
		return nil, api.ErrName
	}
	var l []api.Posted
	sum := 0
	for i, r := range x.records {
		for _, line := range r.entry.Lines {
			if line.Account == account {
				sum += line.Cents
				l = append(l, api.Posted{No: i + 1, Day: r.entry.Day, Text: r.entry.Text, Cents: line.Cents, Sum: sum})
			}
		}
	}
	return l, api.OK
}

// add keeps a record whose entry has nothing wrong in itself, if there is room for it: its number.
func (x *Ledger) add(r record) (int, api.Errno) {
	if len(x.records) >= api.MaxEntries {
		return 0, api.ErrFull
	}
	for _, line := range r.entry.Lines {
		if !terms.Between(x.balances[line.Account]+line.Cents, -maxBalance, maxBalance) {
			return 0, api.ErrLarge
		}
	}
	for _, line := range r.entry.Lines {
		x.balances[line.Account] += line.Cents
	}
	x.records = append(x.records, r)
	return len(x.records), api.OK
}
