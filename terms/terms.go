// Package terms has the tests for the terms that the rules for all chapters define.
package terms

import (
	"strconv"
	"strings"
	"unicode/utf8"

	"coilrack/api"
)

// IsKey reports whether s is a key: 1 to MaxName bytes of small letters, digits, - and _, the first one a small letter.
func IsKey(s string) bool {
	if len(s) < 1 || len(s) > api.MaxName || !isSmall(s[0]) {
		return false
	}
	for i := range len(s) {
		if !isSmall(s[i]) && !isDigit(s[i]) && s[i] != '-' && s[i] != '_' {
			return false
		}
	}
	return true
}

// AllKeys reports whether all strings of a list are keys.
func AllKeys(l []string) bool {
	for _, s := range l {
		if !IsKey(s) {
			return false
		}
	}
	return true
}

// CheckKeys says what is wrong with keys each of which must be greater than the one before.
func CheckKeys(l []string) api.Errno {
	for i, s := range l {
		if !IsKey(s) {
			return api.ErrName
		}
		if i > 0 && s <= l[i-1] {
			return api.ErrOrder
		}
	}
	return api.OK
}

// IsPlain reports whether s is plain: UTF-8 without bytes below 32 and without 127, without blanks at its ends, and without two blanks next to each other.
func IsPlain(s string) bool {
	if !utf8.ValidString(s) || strings.HasPrefix(s, " ") || strings.HasSuffix(s, " ") || strings.Contains(s, "  ") {
		return false
	}
	for i := range len(s) {
		if s[i] < ' ' || s[i] == 127 {
			return false
		}
	}
	return true
}

// IsMoment reports whether n is a moment: a minute from 0 to End - 1.
func IsMoment(n int) bool { return Between(n, 0, api.End-1) }

// Between reports whether n is from least to most.
func Between(n, least, most int) bool { return least <= n && n <= most }

// AllBetween reports whether all numbers of a list are from least to most.
func AllBetween(l []int, least, most int) bool {
	for _, n := range l {
		if !Between(n, least, most) {
			return false
		}
	}
	return true
}

// Number reads a whole string that is a number of 1 to most decimal digits (without a 0 before others), with - before them if it is below 0; false if it is none.
func Number(s string, most int) (int, bool) {
	digits := strings.TrimPrefix(s, "-")
	if !Between(len(digits), 1, most) {
		return 0, false
	}
	for i := range len(digits) {
		if !isDigit(digits[i]) {
			return 0, false
		}
	}
	if digits[0] == '0' && s != "0" {
		return 0, false
	}
	n, err := strconv.Atoi(s)
	if err != nil { // more digits than an int has
		return 0, false
	}
	return n, true
}

func isSmall(b byte) bool { return 'a' <= b && b <= 'z' }

func isDigit(b byte) bool { return '0' <= b && b <= '9' }
