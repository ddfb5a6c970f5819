package vend

import (
	"slices"

	"coilrack/api"
	"coilrack/terms"
)

// CheckConfig says what is wrong with a configuration.
func CheckConfig(c api.Config) api.Errno {
	if e := CheckTubes(c.Tubes); e != api.OK {
		return e
	}
	if e := checkTakes(c.Takes); e != api.OK {
		return e
	}
	for _, t := range c.Tubes {
		if !slices.Contains(c.Takes, t.Value) {
			return api.ErrNone
		}
	}
	if e := checkSlots(c.Slots); e != api.OK {
		return e
	}
	if !terms.Between(c.Highest, 1, api.MaxAmount) {
		return api.ErrArg
	}
	return api.OK
}

func checkTakes(l []int) api.Errno {
	if len(l) > api.MaxTakes {
		return api.ErrLarge
	}
	for i, v := range l {
		if !terms.Between(v, 1, api.MaxAmount) {
			return api.ErrArg
		}
		if i > 0 && v <= l[i-1] {
			return api.ErrOrder
		}
	}
	return api.OK
}

func checkSlots(l []api.Slot) api.Errno {
	if len(l) == 0 {
		return api.ErrNone
	}
	if len(l) > api.MaxSlots {
		return api.ErrLarge
	}
	for i, s := range l {
		if !terms.IsKey(s.Key) {
			return api.ErrName
		}
		if i > 0 && s.Key <= l[i-1].Key {
			return api.ErrOrder
		}
		if !terms.IsKey(s.Product) {
			return api.ErrName
		}
		if !terms.Between(s.Price, 1, api.MaxAmount) || !terms.Between(s.Most, 0, maxMost) || !terms.Between(s.Count, 0, s.Most) {
			return api.ErrArg
		}
	}
	return api.OK
}
