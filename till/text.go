package till

import (
	"slices"
	"strconv"
	"strings"

	"coilrack/api"
	"coilrack/terms"
)

// How the lines of a ledger that is written begin; those of a cancelling with cancelWord.
const (
	entryWord = "entry"
	indent    = "  " // of a line of an entry
)

// posting adds an entry that was read to a ledger.
type posting func(x *Ledger) (int, api.Errno)

// Print writes a ledger.
func (x *Ledger) Print() (string, api.Errno) {
	var text strings.Builder
	for _, r := range x.records {
		if r.cancels > 0 {
			text.WriteString(cancelWord + " " + strconv.Itoa(r.cancels) + "\n")
			continue
		}
		text.WriteString(entryWord + " " + strconv.Itoa(r.entry.Day) + " " + r.entry.Text + "\n")
		for _, line := range r.entry.Lines {
			text.WriteString(indent + line.Account + " " + strconv.Itoa(line.Cents) + "\n")
		}
	}
	if text.Len() > api.MaxText {
		return "", api.ErrLarge
	}
	return text.String(), api.OK
}

// Read reads a ledger.
func Read(text string) (*Ledger, int, api.Errno) {
	if len(text) > api.MaxText {
		return nil, 0, api.ErrLarge
	}
	x := NewLedger()
	lines := slices.Collect(strings.Lines(text))
	for at := 0; at < len(lines); {
		end := at + 1
		for end < len(lines) && strings.HasPrefix(lines[end], indent) {
			end++
		}
		post, good := readRecord(lines[at:end])
		if at+good < end {
			return nil, at + good, api.ErrSyntax
		}
		if _, e := post(x); e != api.OK {
			return nil, at, e
		}
		at = end
	}
	return x, 0, api.OK
}

// readRecord reads the lines of an entry, or of a cancelling: what posts it, and how many lines, from the first one on, have their form. It posts something only if all of them have.
func readRecord(lines []string) (posting, int) {
	head, ended := strings.CutSuffix(lines[0], "\n")
	word, rest, _ := strings.Cut(head, " ")
	switch {
	case ended && word == cancelWord:
		return readCancel(rest)
	case ended && word == entryWord:
		return readEntry(rest, lines[1:])
	}
	return nil, 0
}

// readCancel reads what follows the word of a cancelling, which has no lines but this one.
func readCancel(rest string) (posting, int) {
	no, ok := terms.Number(rest, maxDigits)
	if !ok {
		return nil, 0
	}
	return func(x *Ledger) (int, api.Errno) { return x.Cancel(no) }, 1
}

// readEntry reads what follows the word of an entry, and its lines.
func readEntry(rest string, lines []string) (posting, int) {
	word, text, ok := strings.Cut(rest, " ")
	day, isNumber := terms.Number(word, maxDigits)
	if !ok || !isNumber {
		return nil, 0
	}
	e := api.Entry{Day: day, Text: text}
	for i, s := range lines {
		line, ok := readLine(s)
		if !ok {
			return nil, 1 + i
		}
		e.Lines = append(e.Lines, line)
	}
	return func(x *Ledger) (int, api.Errno) { return x.Post(e) }, 1 + len(lines)
}

// readLine reads a line of an entry. What an account is called is not its form, but a matter of Post.
func readLine(s string) (api.Line, bool) {
	s, ended := strings.CutSuffix(s, "\n")
	account, word, _ := strings.Cut(strings.TrimPrefix(s, indent), " ") // without a blank there is no number behind it
	cents, ok := terms.Number(word, maxDigits)
	if !ended || !ok {
		return api.Line{}, false
	}
	return api.Line{Account: account, Cents: cents}, true
}
