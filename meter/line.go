package meter

import (
	"strconv"
	"strings"

	"coilrack/api"
	"coilrack/terms"
)

// Encode writes a reading.
func Encode(r api.Reading) (string, api.Errno) {
	if e := checkLine(r); e != api.OK {
		return "", e
	}
	words := make([]string, len(r.Values))
	for i, v := range r.Values {
		words[i] = strconv.Itoa(v)
	}
	text := strconv.Itoa(r.At) + " " + strings.Join(words, ",")
	return text + " *" + checksum(text), api.OK
}

// Decode reads a reading.
func Decode(text string) (api.Reading, api.Errno) {
	if len(text) > maxLine {
		return api.Reading{}, api.ErrLarge
	}
	body, sum, ok := cutSum(text)
	if !ok {
		return api.Reading{}, api.ErrSyntax
	}
	r, ok := readBody(body)
	if !ok {
		return api.Reading{}, api.ErrSyntax
	}
	if sum != checksum(body) {
		return api.Reading{}, api.ErrSum
	}
	if e := checkLine(r); e != api.OK {
		return api.Reading{}, e
	}
	return r, api.OK
}

// checkLine says what is wrong with a reading that is written or was read.
func checkLine(r api.Reading) api.Errno {
	if !terms.IsMoment(r.At) {
		return api.ErrArg
	}
	if !terms.Between(len(r.Values), 1, api.MaxCounters) {
		return api.ErrForm
	}
	if !terms.AllBetween(r.Values, 0, maxTurn-1) {
		return api.ErrArg
	}
	return api.OK
}

// cutSum cuts the blank, the * and the two digits off a line; false if they are not there.
func cutSum(text string) (body, sum string, ok bool) {
	at := len(text) - len(" *00")
	if at < 0 || text[at:at+2] != " *" || !isHex(text[at+2]) || !isHex(text[at+3]) {
		return "", "", false
	}
	return text[:at], text[at+2:], true
}

// readBody reads At and Values; false if they have not their form.
func readBody(body string) (api.Reading, bool) {
	first, list, _ := strings.Cut(body, " ") // without a blank there is no number in the list
	at, ok := terms.Number(first, maxDigits)
	if !ok {
		return api.Reading{}, false
	}
	r := api.Reading{At: at}
	for _, word := range strings.Split(list, ",") {
		v, ok := terms.Number(word, maxDigits)
		if !ok {
			return api.Reading{}, false
		}
		r.Values = append(r.Values, v)
	}
	return r, true
}

// checksum is two hexadecimal digits: the exclusive or of all bytes.
func checksum(s string) string {
	const digits = "0123456789abcdef"
	var x byte
	for i := range len(s) {
		x ^= s[i]
	}
	return string([]byte{digits[x>>4], digits[x&15]})
}

func isHex(b byte) bool { return '0' <= b && b <= '9' || 'a' <= b && b <= 'f' }
