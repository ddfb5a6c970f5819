package meter

import (
	"cmp"
	"slices"

	"coilrack/api"
)

// The lists of windows here are in order and as few as possible: between two of them there is at least one minute, and none is empty.

// appendWindow adds a window that begins where the last one ends, or later.
func appendWindow(l []api.Window, w api.Window) []api.Window {
	if w.From >= w.To {
		return l
	}
	if n := len(l); n > 0 && l[n-1].To >= w.From {
		l[n-1].To = max(l[n-1].To, w.To)
		return l
	}
	return append(l, w)
}

// union returns the minutes of at least one of two lists.
func union(a, b []api.Window) []api.Window {
	both := slices.Concat(a, b)
	slices.SortFunc(both, func(v, w api.Window) int { return cmp.Compare(v.From, w.From) })
	var l []api.Window
	for _, w := range both {
		l = appendWindow(l, w)
	}
	return l
}

// common returns the minutes of both lists.
func common(a, b []api.Window) []api.Window {
	var l []api.Window
	for i, j := 0, 0; i < len(a) && j < len(b); {
		l = appendWindow(l, api.Window{From: max(a[i].From, b[j].From), To: min(a[i].To, b[j].To)})
		if a[i].To < b[j].To {
			i++
		} else {
			j++
		}
	}
	return l
}

// others returns the minutes from 0 to End that are not of a list.
func others(a []api.Window) []api.Window {
	var l []api.Window
	from := 0
	for _, w := range a {
		l = appendWindow(l, api.Window{From: from, To: w.From})
		from = w.To
	}
	return appendWindow(l, api.Window{From: from, To: api.End})
}
