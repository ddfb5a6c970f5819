package terms_test

import (
	"strings"
	"testing"

	"coilrack/api"
	"coilrack/terms"
)

// Z11: a key.
func TestIsKey(t *testing.T) {
	good := []string{"a", "z", "a0", "z9", "a-", "a_", "can-0_5", strings.Repeat("k", api.MaxName)}
	for _, s := range good {
		if !terms.IsKey(s) {
			t.Errorf("%q is a key", s)
		}
	}
	bad := []string{
		"", "0", "9a", "-a", "_a", "A", "aB", "a b", " a", "a ", "a.", "a/", "a:", "a`", "a{", "`a", "{a", "a\n", "a\x00",
		"ä", "aä", "a\xff", strings.Repeat("k", api.MaxName+1),
	}
	for _, s := range bad {
		if terms.IsKey(s) {
			t.Errorf("%q is no key", s)
		}
	}
}
