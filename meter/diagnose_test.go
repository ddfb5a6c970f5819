package meter_test

import (
	"math"
	"math/rand"
	"slices"
	"strings"
	"testing"

	"coilrack/api"
	"coilrack/meter"
)

func rule(fault string, long int, needs ...string) api.Rule {
	return api.Rule{Fault: fault, Needs: needs, Long: long}
}

func without(r api.Rule, codes ...string) api.Rule {
	r.Without = codes
	return r
}

// P2.7: what is wrong with rules; Diagnose returns this error.
func TestCheckRules(t *testing.T) {
	ten := slices.Repeat([]string{"a"}, 10)
	eleven := slices.Repeat([]string{""}, 11)
	good := rule("f", 1, "a")
	for name, x := range map[string]struct {
		l    []api.Rule
		want api.Errno
	}{
		"none":                   {nil, api.OK},
		"as much as can be":      {slices.Repeat([]api.Rule{without(rule("f", api.End, ten...), ten...)}, 50), api.OK},
		"too many rules":         {make([]api.Rule, 51), api.ErrLarge},
		"no fault":               {[]api.Rule{good, rule("", 1)}, api.ErrName},
		"no key":                 {[]api.Rule{good, rule("F", 1)}, api.ErrName},
		"no needs":               {[]api.Rule{good, without(rule("f", 0), eleven...)}, api.ErrNone},
		"too many needs":         {[]api.Rule{rule("f", 0, eleven...)}, api.ErrLarge},
		"too many without":       {[]api.Rule{without(rule("f", 0, ""), eleven...)}, api.ErrLarge},
		"a need that is no key":  {[]api.Rule{rule("f", 0, "a", "A")}, api.ErrName},
		"without a key":          {[]api.Rule{without(rule("f", 0, "a"), "b", "")}, api.ErrName},
		"long of 0":              {[]api.Rule{rule("f", 0, "a")}, api.ErrArg},
		"long below 0":           {[]api.Rule{rule("f", math.MinInt, "a")}, api.ErrArg},
		"long after the end":     {[]api.Rule{rule("f", api.End+1, "a")}, api.ErrArg},
		"greatest long":          {[]api.Rule{rule("f", math.MaxInt, "a")}, api.ErrArg},
		"the first one first":    {[]api.Rule{rule("f", 0, "a"), rule("", 1, "a")}, api.ErrArg},
		"a long name of a fault": {[]api.Rule{rule(strings.Repeat("f", 41), 1, "a")}, api.ErrName},
	} {
		if e := meter.CheckRules(x.l); e != x.want {
			t.Errorf("%s: CheckRules %d", name, e)
		}
		if f, e := meter.Diagnose(nil, x.l); len(f) != 0 || e != x.want {
			t.Errorf("%s: Diagnose %v %d", name, f, e)
		}
	}
}

// P2.7: what follows of rules.
func TestDiagnose(t *testing.T) {
	l := []api.Code{on(10, "door"), on(20, "heat"), off(30, "door"), off(50, "heat"), on(60, "door"), on(65, "heat"), off(80, "heat")}
	for name, x := range map[string]struct {
		rules []api.Rule
		want  []api.Finding
	}{
		"no rules":      {nil, nil},
		"one need":      {[]api.Rule{rule("f", 1, "heat")}, []api.Finding{{Fault: "f", From: 20, To: 50}, {Fault: "f", From: 65, To: 80}}},
		"as long":       {[]api.Rule{rule("f", 30, "heat")}, []api.Finding{{Fault: "f", From: 20, To: 50}}},
		"not so long":   {[]api.Rule{rule("f", 31, "heat")}, nil},
		"two needs":     {[]api.Rule{rule("f", 1, "heat", "door")}, []api.Finding{{Fault: "f", From: 20, To: 30}, {Fault: "f", From: 65, To: 80}}},
		"without":       {[]api.Rule{without(rule("f", 15, "heat"), "door")}, []api.Finding{{Fault: "f", From: 30, To: 50}}},
		"cut in two":    {[]api.Rule{without(rule("f", 1, "door"), "heat")}, []api.Finding{{Fault: "f", From: 10, To: 20}, {Fault: "f", From: 60, To: 65}, {Fault: "f", From: 80, To: api.End}}},
		"to the end":    {[]api.Rule{rule("f", api.End-60, "door")}, []api.Finding{{Fault: "f", From: 60, To: api.End}}},
		"need and not":  {[]api.Rule{without(rule("f", 1, "heat"), "heat")}, nil},
		"unknown need":  {[]api.Rule{rule("f", 1, "heat", "cold")}, nil},
		"unknown other": {[]api.Rule{without(rule("f", 20, "heat"), "cold", "wet")}, []api.Finding{{Fault: "f", From: 20, To: 50}}},
		"a need twice":  {[]api.Rule{rule("f", 20, "heat", "heat")}, []api.Finding{{Fault: "f", From: 20, To: 50}}},
		"equal ones":    {[]api.Rule{rule("f", 20, "heat"), rule("f", 30, "heat", "heat")}, []api.Finding{{Fault: "f", From: 20, To: 50}}},
		"by from, to and fault": {
			[]api.Rule{rule("z", 1, "heat"), rule("b", 1, "heat", "door"), rule("y", 1, "heat"), rule("f", 20, "door")},
			[]api.Finding{
				{Fault: "f", From: 10, To: 30}, {Fault: "b", From: 20, To: 30}, {Fault: "y", From: 20, To: 50}, {Fault: "z", From: 20, To: 50},
				{Fault: "f", From: 60, To: api.End}, {Fault: "b", From: 65, To: 80}, {Fault: "y", From: 65, To: 80}, {Fault: "z", From: 65, To: 80},
			},
		},
	} {
		if f, e := meter.Diagnose(l, x.rules); !same(f, x.want) || e != api.OK {
			t.Errorf("%s: %v %d", name, f, e)
		}
	}
}

// P2.7: Diagnose against every minute.
func TestDiagnoseOfSome(t *testing.T) {
	r := rand.New(rand.NewSource(9))
	keys := func(least int) []string {
		var l []string
		for range least + r.Intn(3) {
			l = append(l, string("abcde"[r.Intn(5)]))
		}
		return l
	}
	for range 1_000 {
		l := someCodes(r, 24)
		x := without(rule("f", 1+r.Intn(6), keys(1)...), keys(0)...)
		is := make([]bool, 40)
		for i := range is {
			is[i] = true
			for _, k := range x.Needs {
				is[i] = is[i] && lit(l, k)[i]
			}
			for _, k := range x.Without {
				is[i] = is[i] && !lit(l, k)[i]
			}
		}
		var want []api.Finding
		for _, w := range windows(is) {
			if w.To-w.From >= x.Long {
				want = append(want, api.Finding{Fault: "f", From: w.From, To: w.To})
			}
		}
		if f, e := meter.Diagnose(l, []api.Rule{x}); !same(f, want) || e != api.OK {
			t.Fatalf("%v %v: %v %d, not %v", l, x, f, e, want)
		}
	}
}

// P2.7: as many findings as there can be.
func TestMostFindings(t *testing.T) {
	var l []api.Code
	for i := range api.MaxCodes / 2 {
		l = append(l, on(2*i, "a"), off(2*i+1, "a"))
	}
	var rules []api.Rule
	for i := range 50 {
		rules = append(rules, rule("f"+string(rune('a'+i/10))+string(rune('0'+i%10)), 1, slices.Repeat([]string{"a"}, 10)...))
	}
	f, e := meter.Diagnose(l, rules)
	if len(f) != 75_000 || f[0] != (api.Finding{Fault: "fa0", From: 0, To: 1}) || f[74_999] != (api.Finding{Fault: "fe9", From: 2_998, To: 2_999}) || e != api.OK {
		t.Error(len(f), e)
	}
}
