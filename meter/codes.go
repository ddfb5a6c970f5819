package meter

import (
	"coilrack/api"
	"coilrack/terms"
)

// CheckCodes says what is wrong with codes.
func CheckCodes(l []api.Code) api.Errno {
	if len(l) > api.MaxCodes {
		return api.ErrLarge
	}
	for i, c := range l {
		if !terms.IsMoment(c.At) {
			return api.ErrArg
		}
		if !terms.IsKey(c.Key) {
			return api.ErrName
		}
		if i > 0 && before(c, l[i-1]) {
			return api.ErrOrder
		}
	}
	return api.OK
}

// Faulty returns the windows in which a code is on.
func Faulty(l []api.Code, code string) ([]api.Window, api.Errno) {
	if e := CheckCodes(l); e != api.OK {
		return nil, e
	}
	if !terms.IsKey(code) {
		return nil, api.ErrName
	}
	return lit(l)[code], api.OK
}

// Down returns for how many minutes some code is on.
func Down(l []api.Code, codes []string, w api.Window) (int, api.Errno) {
	if e := CheckCodes(l); e != api.OK {
		return 0, e
	}
	if len(codes) > maxAsked {
		return 0, api.ErrLarge
	}
	if !terms.AllKeys(codes) {
		return 0, api.ErrName
	}
	if w.From < 0 || !terms.Between(w.To, w.From, api.End) {
		return 0, api.ErrArg
	}
	on := lit(l)
	var some []api.Window
	for _, code := range codes {
		some = union(some, on[code])
	}
	sum := 0
	for _, part := range common(some, []api.Window{w}) {
		sum += part.To - part.From
	}
	return sum, api.OK
}

// before reports whether (At, Key) of a is less than that of b.
func before(a, b api.Code) bool {
	return a.At < b.At || a.At == b.At && a.Key < b.Key
}

// lit returns for each key the windows in which it is on, in order, as few as possible.
func lit(l []api.Code) map[string][]api.Window {
	on := map[string][]api.Window{}
	since := map[string]int{} // of keys that are on
	for _, c := range l {
		from, is := since[c.Key]
		switch {
		case c.On && !is:
			since[c.Key] = c.At
		case !c.On && is:
			on[c.Key] = appendWindow(on[c.Key], api.Window{From: from, To: c.At})
			delete(since, c.Key)
		}
	}
	for key, from := range since {
		on[key] = appendWindow(on[key], api.Window{From: from, To: api.End})
	}
	return on
}
