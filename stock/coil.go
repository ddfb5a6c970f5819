package stock

import (
	"cmp"
	"slices"

	"coilrack/api"
	"coilrack/terms"
)

// CheckCoil says what is wrong with a coil.
func CheckCoil(c api.Coil) api.Errno {
	switch {
	case !terms.IsKey(c.Product):
		return api.ErrName
	case !terms.Between(c.Most, 0, maxCoil):
		return api.ErrArg
	case len(c.Pieces) > maxCoil:
		return api.ErrLarge
	}
	for i, x := range c.Pieces {
		if !terms.IsKey(x.Lot) {
			return api.ErrName
		}
		if !terms.Between(x.Many, 1, maxCoil) {
			return api.ErrArg
		}
		if i > 0 && x.Lot == c.Pieces[i-1].Lot {
			return api.ErrForm
		}
	}
	if number(c.Pieces) > c.Most {
		return api.ErrFull
	}
	return api.OK
}

// Room is how many units have room.
func Room(c api.Coil) (int, api.Errno) {
	if e := CheckCoil(c); e != api.OK {
		return 0, e
	}
	return c.Most - number(c.Pieces), api.OK
}

// Push adds pieces at the end.
func Push(c api.Coil, l []api.Lot, p []api.Piece) (api.Coil, api.Errno) {
	if e := checkPush(c, l, p); e != api.OK {
		return api.Coil{}, e
	}
	return refill(c, slices.Concat(c.Pieces, p)), api.OK
}

// Sell takes units from the front.
func Sell(c api.Coil, many int) (api.Coil, []api.Piece, api.Errno) {
	if e := CheckCoil(c); e != api.OK {
		return api.Coil{}, nil, e
	}
	if !terms.Between(many, 0, maxCoil) {
		return api.Coil{}, nil, api.ErrArg
	}
	if number(c.Pieces) < many {
		return api.Coil{}, nil, api.ErrNone
	}
	var sold, rest []api.Piece
	for _, x := range c.Pieces {
		n := min(many, x.Many)
		many -= n
		if n > 0 {
			sold = append(sold, api.Piece{Lot: x.Lot, Many: n})
		}
		if n < x.Many {
			rest = append(rest, api.Piece{Lot: x.Lot, Many: x.Many - n})
		}
	}
	return refill(c, rest), sold, api.OK
}

// Rotate takes all out, and puts it in again by what expires first.
func Rotate(c api.Coil, l []api.Lot, p []api.Piece) (api.Coil, api.Errno) {
	if e := checkPush(c, l, p); e != api.OK {
		return api.Coil{}, e
	}
	lots := byId(l)
	if !known(c, lots) {
		return api.Coil{}, api.ErrNone
	}
	all := slices.Concat(c.Pieces, p)
	slices.SortFunc(all, func(a, b api.Piece) int {
		return cmp.Or(cmp.Compare(lots[a.Lot].Expires, lots[b.Lot].Expires), cmp.Compare(a.Lot, b.Lot))
	})
	return refill(c, all), api.OK
}

// Blocked is how many units at the front can be sold no more.
func Blocked(c api.Coil, l []api.Lot, day int) (int, api.Errno) {
	ends, e := expiries(c, l, day)
	if e != api.OK {
		return 0, e
	}
	n := slices.IndexFunc(ends, func(end int) bool { return end >= day })
	if n < 0 {
		return len(ends), api.OK
	}
	return n, api.OK
}

// Stale is how many units will be sold too late, or not at all.
func Stale(c api.Coil, l []api.Lot, from int, sales []int) (int, api.Errno) {
	ends, e := expiries(c, l, from)
	if e != api.OK {
		return 0, e
	}
	if len(sales) > maxSales {
		return 0, api.ErrLarge
	}
	if !terms.AllBetween(sales, 0, maxCoil) {
		return 0, api.ErrArg
	}
	stale := 0
	for i, many := range sales {
		n := min(many, len(ends))
		stale += before(ends[:n], from+i)
		ends = ends[n:]
	}
	return stale + before(ends, from+len(sales)), api.OK
}

// checkPush says what is wrong with a coil, lots, and pieces that are put into the coil.
func checkPush(c api.Coil, l []api.Lot, p []api.Piece) api.Errno {
	if e := CheckLots(l); e != api.OK {
		return e
	}
	if e := CheckCoil(c); e != api.OK {
		return e
	}
	lots := byId(l)
	for _, x := range p {
		lot, ok := lots[x.Lot]
		switch {
		case !ok:
			return api.ErrNone
		case lot.Product != c.Product:
			return api.ErrConflict
		case !terms.Between(x.Many, 1, maxCoil):
			return api.ErrArg
		}
	}
	if number(c.Pieces)+number(p) > c.Most {
		return api.ErrFull
	}
	return api.OK
}

// byId returns lots by their Ids.
func byId(l []api.Lot) map[string]api.Lot {
	lots := map[string]api.Lot{}
	for _, x := range l {
		lots[x.Id] = x
	}
	return lots
}

// known reports whether each piece in a coil is of a lot.
func known(c api.Coil, lots map[string]api.Lot) bool {
	return !slices.ContainsFunc(c.Pieces, func(x api.Piece) bool {
		_, ok := lots[x.Lot]
		return !ok
	})
}

// number is how many units pieces have.
func number(p []api.Piece) int {
	sum := 0
	for _, x := range p {
		sum += x.Many
	}
	return sum
}

// refill returns a coil with other pieces in it; those next to each other that are of one lot are joined.
func refill(c api.Coil, p []api.Piece) api.Coil {
	var joined []api.Piece
	for _, x := range p {
		if last := len(joined) - 1; last >= 0 && joined[last].Lot == x.Lot {
			joined[last].Many += x.Many
		} else {
			joined = append(joined, x)
		}
	}
	return api.Coil{Product: c.Product, Most: c.Most, Pieces: joined}
}

// expiries returns on which day each unit in a coil expires, from the front on, or what is wrong with the coil, its lots, or a day.
func expiries(c api.Coil, l []api.Lot, day int) ([]int, api.Errno) {
	if e := CheckLots(l); e != api.OK {
		return nil, e
	}
	if e := CheckCoil(c); e != api.OK {
		return nil, e
	}
	lots := byId(l)
	if !known(c, lots) {
		return nil, api.ErrNone
	}
	if !isDay(day) {
		return nil, api.ErrArg
	}
	var ends []int
	for _, x := range c.Pieces {
		ends = append(ends, slices.Repeat([]int{lots[x.Lot].Expires}, x.Many)...)
	}
	return ends, api.OK
}

// before is how many of some days are before another one.
func before(days []int, day int) int {
	n := 0
	for _, d := range days {
		if d < day {
			n++
		}
	}
	return n
}
