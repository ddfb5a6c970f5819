// Package terms has the tests for the terms that the rules for all chapters define.
package terms

import (
	"coilrack/api"
)

// IsKey reports whether s is a key: 1 to MaxName bytes of small letters, digits, - and _, the first one a small letter.
func IsKey(s string) bool {
	if len(s) < 1 || len(s) > api.MaxName || !isSmall(s[0]) {
		return false
	}
	for i := range len(s) {
		if !isSmall(s[i]) && !isDigit(s[i]) && s[i] != '-' && s[i] != '_' {
			return false
		}
	}
	return true
}

func isSmall(b byte) bool { return 'a' <= b && b <= 'z' }

func isDigit(b byte) bool { return '0' <= b && b <= '9' }
