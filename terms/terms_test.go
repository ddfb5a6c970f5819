package terms_test

import (
	"math"
	"strings"
	"testing"

	"coilrack/api"
	"coilrack/terms"
)

// Z11: a key.
func TestIsKey(t *testing.T) {
	good := []string{"a", "z", "a0", "z9", "a-", "a_", "can-0_5", strings.Repeat("k", api.MaxName)}
	for _, s := range good {
		if !terms.IsKey(s) {
			t.Errorf("%q is a key", s)
		}
	}
	bad := []string{
		"", "0", "9a", "-a", "_a", "A", "aB", "a b", " a", "a ", "a.", "a/", "a:", "a`", "a{", "`a", "{a", "a\n", "a\x00",
		"ä", "aä", "a\xff", strings.Repeat("k", api.MaxName+1),
	}
	for _, s := range bad {
		if terms.IsKey(s) {
			t.Errorf("%q is no key", s)
		}
		if terms.AllKeys([]string{"a", s}) || terms.AllKeys([]string{s, "a"}) {
			t.Errorf("%q and a are not all keys", s)
		}
	}
	if !terms.AllKeys(good) || !terms.AllKeys(nil) {
		t.Error("all are keys")
	}
}

// Keys that rise, and what is wrong with others.
func TestCheckKeys(t *testing.T) {
	for _, x := range []struct {
		l    []string
		want api.Errno
	}{
		{nil, api.OK},
		{[]string{"b"}, api.OK},
		{[]string{"a", "a-", "a0", "a_", "aa", "b"}, api.OK},
		{[]string{"b", "b"}, api.ErrOrder},
		{[]string{"a", "c", "b"}, api.ErrOrder},
		{[]string{""}, api.ErrName},
		{[]string{"b", "A"}, api.ErrName}, // not ErrOrder, though it is less
		{[]string{"b", "a", ""}, api.ErrOrder},
		{[]string{"", "b", "a"}, api.ErrName},
	} {
		if e := terms.CheckKeys(x.l); e != x.want {
			t.Errorf("%q: %d", x.l, e)
		}
	}
}

// Z11: plain.
func TestIsPlain(t *testing.T) {
	for _, s := range []string{
		"", "a", "A", "!", "~", "a b", "a b c", "bag 1, 2.50", "ä", "1 €", "\u0080", "\u00a0", "a\u2028b", "\U0010ffff", "\ufeff", "\ufffd", strings.Repeat("a ", 50_000) + "a",
	} {
		if !terms.IsPlain(s) {
			t.Errorf("%.9q is plain", s)
		}
	}
	for _, s := range []string{
		" ", "  ", " a", "a ", "a  b", "a   b", "\x00", "\n", "a\nb", "a\n", "\t", "\x1f", "a\x1f", "\x7f", "a\x7fb", "\r",
		"\xff", "a\x80", "\xc3", "\xc0\x80", "\xe0\x80\x80", "\xed\xa0\x80", "\xf4\x90\x80\x80", "\xf8\x88\x80\x80\x80",
	} {
		if terms.IsPlain(s) {
			t.Errorf("%q is not plain", s)
		}
	}
}

// Z11: a moment.
func TestIsMoment(t *testing.T) {
	for n, want := range map[int]bool{
		0: true, 1: true, api.End - 1: true, -1: false, api.End: false, math.MinInt: false, math.MaxInt: false,
	} {
		if terms.IsMoment(n) != want {
			t.Errorf("%d: %v", n, !want)
		}
	}
}

// Ranges have both of their ends.
func TestBetween(t *testing.T) {
	for n, want := range map[int]bool{2: false, 3: true, 4: true, 5: true, 6: false, math.MinInt: false, math.MaxInt: false} {
		if terms.Between(n, 3, 5) != want || terms.AllBetween([]int{4, n, 3}, 3, 5) != want {
			t.Errorf("%d: %v", n, !want)
		}
	}
	if !terms.AllBetween(nil, 3, 5) || terms.Between(4, 5, 3) {
		t.Error("no numbers, no range")
	}
}

// Z10: a number.
func TestNumber(t *testing.T) {
	for s, want := range map[string]int{
		"0": 0, "7": 7, "10": 10, "-1": -1, "-10": -10, "999999999": 999_999_999, "-999999999": -999_999_999,
	} {
		if n, ok := terms.Number(s, 9); n != want || !ok {
			t.Errorf("%q: %d %v", s, n, ok)
		}
	}
	for _, s := range []string{
		"", "-", "--1", "+1", "00", "01", "-0", "-00", "-01", " 1", "1 ", "1-", "1a", "a", "0x1", "1_0", "1.0", "1,0", "/", ":", "١", "1\n", "1\x00",
		"1000000000", "-1000000000",
	} {
		if n, ok := terms.Number(s, 9); n != 0 || ok {
			t.Errorf("%q: %d %v", s, n, ok)
		}
	}
	if n, ok := terms.Number("1000000000", 10); n != 1_000_000_000 || !ok {
		t.Error(n, ok)
	}
	for s, want := range map[string]bool{
		"9223372036854775807": true, "9223372036854775808": false, "-9223372036854775808": true, "-9223372036854775809": false,
	} {
		if n, ok := terms.Number(s, 30); ok != want || !ok && n != 0 {
			t.Errorf("%q: %d %v", s, n, ok)
		}
	}
}
