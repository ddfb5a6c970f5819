package meter

import (
	"cmp"
	"slices"

	"coilrack/api"
	"coilrack/terms"
)

// CheckRules says what is wrong with rules.
func CheckRules(l []api.Rule) api.Errno {
	if len(l) > maxRules {
		return api.ErrLarge
	}
	for _, r := range l {
		if e := checkRule(r); e != api.OK {
			return e
		}
	}
	return api.OK
}

// Diagnose returns what follows of rules.
func Diagnose(l []api.Code, rules []api.Rule) ([]api.Finding, api.Errno) {
	if e := CheckCodes(l); e != api.OK {
		return nil, e
	}
	if e := CheckRules(rules); e != api.OK {
		return nil, e
	}
	on := lit(l)
	var found []api.Finding
	for _, r := range rules {
		for _, w := range holds(r, on) {
			if w.To-w.From >= r.Long {
				found = append(found, api.Finding{Fault: r.Fault, From: w.From, To: w.To})
			}
		}
	}
	slices.SortFunc(found, func(a, b api.Finding) int {
		return cmp.Or(cmp.Compare(a.From, b.From), cmp.Compare(a.To, b.To), cmp.Compare(a.Fault, b.Fault))
	})
	return slices.Compact(found), api.OK
}

func checkRule(r api.Rule) api.Errno {
	switch {
	case !terms.IsKey(r.Fault):
		return api.ErrName
	case len(r.Needs) == 0:
		return api.ErrNone
	case len(r.Needs) > maxNeeds || len(r.Without) > maxNeeds:
		return api.ErrLarge
	case !terms.AllKeys(r.Needs) || !terms.AllKeys(r.Without):
		return api.ErrName
	case !terms.Between(r.Long, 1, api.End):
		return api.ErrArg
	}
	return api.OK
}

// holds returns the windows in which all Needs of a rule are on, and none of Without is.
func holds(r api.Rule, on map[string][]api.Window) []api.Window {
	l := on[r.Needs[0]]
	for _, code := range r.Needs[1:] {
		l = common(l, on[code])
	}
	for _, code := range r.Without {
		l = common(l, others(on[code]))
	}
	return l
}
