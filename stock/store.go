package stock

import (
	"cmp"
	"maps"
	"slices"

	"coilrack/api"
	"coilrack/terms"
)

// Store keeps lots, and where their units are.
type Store struct {
	lots []api.Lot                 // by Id, with what is in the store
	at   map[string]map[string]int // by Id of a lot, then by place: how many units, above 0
}

// NewStore makes an empty store.
func NewStore() *Store {
	return &Store{at: map[string]map[string]int{}}
}

// Take adds a lot.
func (s *Store) Take(l api.Lot) api.Errno {
	if e := CheckLots([]api.Lot{l}); e != api.OK {
		return e
	}
	i, ok := s.find(l.Id)
	if ok {
		return api.ErrTwice
	}
	if len(s.lots) >= api.MaxLots {
		return api.ErrFull
	}
	s.lots = slices.Insert(s.lots, i, l)
	s.at[l.Id] = map[string]int{}
	return api.OK
}

// Send sends units to a place.
func (s *Store) Send(place, product string, many, day, left int) ([]api.Piece, api.Errno) {
	if !terms.IsKey(place) {
		return nil, api.ErrName
	}
	pieces, e := Pick(s.lots, product, many, day, left)
	if e != api.OK {
		return nil, e
	}
	for _, x := range pieces {
		i, _ := s.find(x.Lot)
		s.lots[i].Many -= x.Many
		s.at[x.Lot][place] += x.Many
	}
	return pieces, api.OK
}

// Return brings pieces back from a place.
func (s *Store) Return(place string, p []api.Piece) api.Errno {
	if e := s.remove(place, p); e != api.OK {
		return e
	}
	for _, x := range p {
		i, _ := s.find(x.Lot)
		s.lots[i].Many += x.Many
	}
	return api.OK
}

// Waste throws pieces of a place away.
func (s *Store) Waste(place string, p []api.Piece) api.Errno {
	return s.remove(place, p)
}

// Lots returns the lots.
func (s *Store) Lots() []api.Lot { return slices.Clone(s.lots) }

// Where returns where the units of a lot are.
func (s *Store) Where(lot string) ([]api.Named, api.Errno) {
	places, ok := s.at[lot]
	if !ok {
		return nil, api.ErrNone
	}
	var l []api.Named
	for _, p := range slices.Sorted(maps.Keys(places)) {
		l = append(l, api.Named{Key: p, Many: places[p]})
	}
	return l, api.OK
}

// find returns the index of a lot, or where it would be, and false.
func (s *Store) find(id string) (int, bool) {
	return slices.BinarySearchFunc(s.lots, id, func(l api.Lot, id string) int { return cmp.Compare(l.Id, id) })
}

// remove takes pieces away from a place, all of them or none.
func (s *Store) remove(place string, p []api.Piece) api.Errno {
	if !terms.IsKey(place) {
		return api.ErrName
	}
	left := map[string]int{} // by Id of a lot: units at the place without those of earlier pieces
	for _, x := range p {
		places, ok := s.at[x.Lot]
		if !ok {
			return api.ErrNone
		}
		if x.Many < 1 {
			return api.ErrArg
		}
		if _, ok := left[x.Lot]; !ok {
			left[x.Lot] = places[place]
		}
		if x.Many > left[x.Lot] { // a sum with Many could overflow
			return api.ErrRule
		}
		left[x.Lot] -= x.Many
	}
	for lot, n := range left {
		s.at[lot][place] = n
		if n == 0 {
			delete(s.at[lot], place)
		}
	}
	return api.OK
}
