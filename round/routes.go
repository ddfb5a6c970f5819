package round

import (
	"iter"
	"math"
	"slices"

	"coilrack/api"
	"coilrack/terms"
)

// Best returns the shortest route of all stops.
func Best(home api.Spot, l []api.Stop, start int) ([]int, int, api.Errno) {
	t := trip{home, l, start}
	if e := t.check(); e != api.OK {
		return nil, 0, e
	}
	if len(l) > api.MaxExact {
		return nil, 0, api.ErrLarge
	}
	order, way, ok := t.best()
	if !ok {
		return nil, 0, api.ErrNone
	}
	return order, way, api.OK
}

// Nearest always drives to the nearest stop.
func Nearest(home api.Spot, l []api.Stop, start int) ([]int, api.Errno) {
	t := trip{home, l, start}
	if e := t.check(); e != api.OK {
		return nil, e
	}
	var order []int
	c := t.leave()
	for {
		stop, next, ok := t.nearest(c, order)
		if !ok {
			return order, api.OK
		}
		order = append(order, stop)
		c = next
	}
}

// Insert puts a further stop into a route.
func Insert(home api.Spot, l []api.Stop, start int, order []int, stop int) ([]int, api.Errno) {
	if _, e := Drive(home, l, start, order); e != api.OK {
		return nil, e
	}
	if !terms.Between(stop, 0, len(l)-1) {
		return nil, api.ErrArg
	}
	if slices.Contains(order, stop) {
		return nil, api.ErrTwice
	}
	longer, _, ok := trip{home, l, start}.shortest(inserted(order, stop))
	if !ok {
		return nil, api.ErrNone
	}
	return longer, api.OK
}

// Improve turns parts of a route around.
func Improve(home api.Spot, l []api.Stop, start int, order []int, rounds int) ([]int, int, api.Errno) {
	tour, e := Drive(home, l, start, order)
	if e != api.OK {
		return nil, 0, e
	}
	if !terms.Between(rounds, 0, maxRounds) {
		return nil, 0, api.ErrArg
	}
	t := trip{home, l, start}
	best, least := slices.Clone(order), tour.Way
	for range rounds {
		next, way, ok := t.shortest(turned(best))
		if !ok || way >= least {
			break
		}
		best, least = next, way
	}
	return best, least, api.OK
}

// Split gives stops to cars.
func Split(home api.Spot, l []api.Stop, start, cars int) ([][]int, api.Errno) {
	t := trip{home, l, start}
	if e := t.check(); e != api.OK {
		return nil, e
	}
	if !terms.Between(cars, 1, maxCars) {
		return nil, api.ErrArg
	}
	routes := make([][]int, cars)
	ways := make([]int, cars)
	for stop := range l {
		put, grows := func() {}, math.MaxInt // a stop that goes nowhere is not put
		for i, order := range routes {
			longer, way, ok := t.shortest(inserted(order, stop))
			if ok && way-ways[i] < grows {
				grows = way - ways[i]
				put = func() { routes[i], ways[i] = longer, way }
			}
		}
		put()
	}
	return routes, api.OK
}

// best returns the route of all stops with the least Way, the least list of several, and this Way; false if there is none.
func (t trip) best() ([]int, int, bool) {
	least := math.MaxInt
	var best, order []int
	var extend func(c car)
	extend = func(c car) {
		way := c.way + far(c.at, t.home)
		if way >= least { // and no further stop makes it shorter
			return
		}
		if len(order) == len(t.stops) {
			// The routes are met from the least list on: of several the first one stays.
			best, least = slices.Clone(order), way
			return
		}
		for i, s := range t.stops {
			if slices.Contains(order, i) {
				continue
			}
			if next, ok := c.visit(s); ok {
				order = append(order, i)
				extend(next)
				order = order[:len(order)-1]
			}
		}
	}
	extend(t.leave())
	return best, least, least < math.MaxInt
}

// nearest returns the nearest stop that is not in a route and could begin in time, the first one of several, and the car when it was there; false if there is none.
func (t trip) nearest(c car, order []int) (int, car, bool) {
	stop, there, found := 0, car{}, false
	for i, s := range t.stops {
		if slices.Contains(order, i) {
			continue
		}
		if next, ok := c.visit(s); ok && (!found || next.way < there.way) {
			stop, there, found = i, next, true
		}
	}
	return stop, there, found
}

// shortest returns the route with the least Way of those that can be driven, the first one of several, and this Way; false if there is none.
func (t trip) shortest(routes iter.Seq[[]int]) ([]int, int, bool) {
	var best []int
	least := math.MaxInt
	for order := range routes {
		if tour, ok := t.drive(order); ok && tour.Way < least {
			best, least = slices.Clone(order), tour.Way
		}
	}
	return best, least, least < math.MaxInt
}

// The routes of the sequences here are in memory that the next one changes.

// inserted is the routes that have a further stop, from the first place for it on.
func inserted(order []int, stop int) iter.Seq[[]int] {
	return func(yield func([]int) bool) {
		longer := slices.Concat([]int{stop}, order)
		for i := range longer {
			if !yield(longer) {
				return
			}
			if i < len(order) { // the stop goes one place on
				longer[i], longer[i+1] = longer[i+1], longer[i]
			}
		}
	}
}

// turned is the routes in which a part of at least two stops is turned around, by where it begins, then by where it ends.
func turned(order []int) iter.Seq[[]int] {
	return func(yield func([]int) bool) {
		route := slices.Clone(order)
		for i := range route {
			for j := i + 2; j <= len(route); j++ {
				slices.Reverse(route[i:j])
				if !yield(route) {
					return
				}
				slices.Reverse(route[i:j])
			}
		}
	}
}
