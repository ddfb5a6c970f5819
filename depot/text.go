package depot

import (
	"slices"
	"strconv"
	"strings"

	"coilrack/api"
	"coilrack/terms"
)

// walletWord begins a wallet that is written.
const walletWord = "wallet"

// Print writes a wallet.
func Print(w api.Wallet) (string, api.Errno) {
	if e := CheckWallet(w); e != api.OK {
		return "", e
	}
	var text strings.Builder
	text.WriteString(walletWord + " " + strings.Join(w.Sites, " ") + "\n")
	for i, site := range w.Sites {
		text.WriteString(site + " " + joined(w.Rights[i]) + " " + strconv.Itoa(w.Used[i]) + "\n")
	}
	if text.Len() > api.MaxText {
		return "", api.ErrLarge
	}
	return text.String(), api.OK
}

// Parse reads a wallet.
func Parse(text string) (api.Wallet, int, api.Errno) {
	if len(text) > api.MaxText {
		return api.Wallet{}, 0, api.ErrLarge
	}
	var w api.Wallet
	lines := 0
	for line := range strings.Lines(text) {
		if !readLine(&w, lines, line) {
			return api.Wallet{}, lines, api.ErrSyntax
		}
		lines++
	}
	if lines <= len(w.Sites) {
		return api.Wallet{}, lines, api.ErrSyntax
	}
	if e := CheckWallet(w); e != api.OK {
		return api.Wallet{}, 0, e
	}
	return w, 0, api.OK
}

// readLine reads the line with a number into a wallet that has those before it; false if it has another form. A blank that is before nothing is another form; what a site is called is not, but a matter of CheckWallet.
func readLine(w *api.Wallet, at int, line string) bool {
	line, ended := strings.CutSuffix(line, "\n")
	words := strings.Split(line, " ")
	switch {
	case !ended || at > len(w.Sites) || slices.Contains(words, ""):
		return false
	case at == 0:
		w.Sites = words[1:]
		return words[0] == walletWord
	case words[0] != w.Sites[at-1] || len(words) != 1+len(w.Sites)+1:
		return false
	}
	numbers, ok := readNumbers(words[1:], maxDigits)
	if !ok {
		return false
	}
	n := len(w.Sites)
	w.Rights = append(w.Rights, numbers[:n])
	w.Used = append(w.Used, numbers[n])
	return true
}

// readNumbers reads words that are numbers of at most so many digits; false if one is none.
func readNumbers(words []string, digits int) ([]int, bool) {
	var numbers []int
	for _, word := range words {
		n, ok := terms.Number(word, digits)
		if !ok {
			return nil, false
		}
		numbers = append(numbers, n)
	}
	return numbers, true
}

// joined writes numbers with single blanks between.
func joined(numbers []int) string {
	var words []string
	for _, n := range numbers {
		words = append(words, strconv.Itoa(n))
	}
	return strings.Join(words, " ")
}
