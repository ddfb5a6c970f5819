package round

import (
	"slices"
	"strconv"
	"strings"

	"coilrack/api"
	"coilrack/terms"
)

// Far is how many minutes lie between spots.
func Far(a, b api.Spot) (int, api.Errno) {
	if !isSpot(a) || !isSpot(b) {
		return 0, api.ErrArg
	}
	return far(a, b), api.OK
}

// CheckStops says what is wrong with stops.
func CheckStops(l []api.Stop) api.Errno {
	if len(l) > api.MaxStops {
		return api.ErrLarge
	}
	for i, s := range l {
		switch {
		case !terms.IsKey(s.Key):
			return api.ErrName
		case slices.ContainsFunc(l[:i], func(other api.Stop) bool { return other.Key == s.Key }):
			return api.ErrTwice
		case !isSpot(s.Spot):
			return api.ErrArg
		case !terms.Between(s.From, 0, s.To) || s.To > api.DayLong || !terms.Between(s.Long, 0, api.DayLong):
			return api.ErrArg
		}
	}
	return api.OK
}

// Drive drives a route.
func Drive(home api.Spot, l []api.Stop, start int, order []int) (api.Tour, api.Errno) {
	t := trip{home, l, start}
	if e := t.check(); e != api.OK {
		return api.Tour{}, e
	}
	if e := checkOrder(l, order); e != api.OK {
		return api.Tour{}, e
	}
	tour, ok := t.drive(order)
	if !ok {
		return api.Tour{}, api.ErrRule
	}
	return tour, api.OK
}

// Print writes a tour.
func Print(l []api.Stop, t api.Tour) (string, api.Errno) {
	if e := CheckStops(l); e != api.OK {
		return "", e
	}
	if len(t.Begins) != len(l) {
		return "", api.ErrForm
	}
	if !terms.AllBetween(t.Begins, 0, maxBegin) {
		return "", api.ErrArg
	}
	var text strings.Builder
	for i, s := range l {
		text.WriteString(clock(t.Begins[i]) + " " + s.Key + "\n")
	}
	return text.String(), api.OK
}

// checkOrder says what is wrong with a route of stops, but for when they begin.
func checkOrder(l []api.Stop, order []int) api.Errno {
	for i, n := range order {
		if !terms.Between(n, 0, len(l)-1) {
			return api.ErrArg
		}
		if slices.Contains(order[:i], n) {
			return api.ErrTwice
		}
	}
	return api.OK
}

// trip is where and when routes begin, and the stops that they can have.
type trip struct {
	home  api.Spot
	stops []api.Stop
	start int
}

// check says what is wrong with a trip.
func (t trip) check() api.Errno {
	if e := CheckStops(t.stops); e != api.OK {
		return e
	}
	if !isSpot(t.home) || !terms.Between(t.start, 0, api.DayLong) {
		return api.ErrArg
	}
	return api.OK
}

// leave is a car that has not left home yet.
func (t trip) leave() car { return car{at: t.home, done: t.start} }

// drive drives a route; false if a stop would begin after its To.
func (t trip) drive(order []int) (api.Tour, bool) {
	begins := make([]int, len(order))
	c := t.leave()
	for i, n := range order {
		next, ok := c.visit(t.stops[n])
		if !ok {
			return api.Tour{}, false
		}
		c = next
		begins[i] = c.began
	}
	back := far(c.at, t.home)
	return api.Tour{Begins: begins, End: c.done + back, Way: c.way + back, Waits: c.waits}, true
}

// car is a car where its last visit was: when that began and was done, and how many minutes it drove and waited in all.
type car struct {
	at                      api.Spot
	began, done, way, waits int
}

// visit drives to a stop; false if it would begin after its To.
func (c car) visit(s api.Stop) (car, bool) {
	way := far(c.at, s.Spot)
	arrives := c.done + way
	begins := max(arrives, s.From)
	if begins > s.To {
		return car{}, false
	}
	return car{at: s.Spot, began: begins, done: begins + s.Long, way: c.way + way, waits: c.waits + begins - arrives}, true
}

// isSpot reports whether a spot is in its range.
func isSpot(s api.Spot) bool {
	return terms.Between(s.X, -maxAxis, maxAxis) && terms.Between(s.Y, -maxAxis, maxAxis)
}

// far is how many minutes lie between spots that are in their range.
func far(a, b api.Spot) int {
	return max(a.X-b.X, b.X-a.X) + max(a.Y-b.Y, b.Y-a.Y)
}

// clock writes a minute as an hour and a minute.
func clock(minute int) string { return twoDigits(minute/60) + ":" + twoDigits(minute%60) }

// twoDigits writes a number with at least two digits.
func twoDigits(n int) string {
	if n < 10 {
		return "0" + strconv.Itoa(n)
	}
	return strconv.Itoa(n)
}
