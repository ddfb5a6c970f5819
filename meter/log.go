package meter

import (
	"maps"
	"slices"

	"coilrack/api"
)

// Log keeps readings.
type Log struct {
	meter  api.Meter
	values map[int][]int // of the reading at each moment
}

// NewLog makes a log.
func NewLog(m api.Meter) (*Log, api.Errno) {
	if e := CheckMeter(m); e != api.OK {
		return nil, e
	}
	return &Log{meter: m, values: map[int][]int{}}, api.OK
}

// Put adds a reading.
func (x *Log) Put(r api.Reading) (bool, api.Errno) {
	if e := CheckReading(x.meter, r); e != api.OK {
		return false, e
	}
	if x.contradicts(r) {
		return false, api.ErrConflict
	}
	if len(x.values) >= api.MaxReadings {
		return false, api.ErrFull
	}
	if x.has(r.At) {
		return false, api.OK
	}
	x.values[r.At] = slices.Clone(r.Values)
	return true, api.OK
}

// Join adds all of another log.
func (x *Log) Join(o *Log) (int, api.Errno) {
	if x.meter != o.meter {
		return 0, api.ErrForm
	}
	var fresh []api.Reading
	for _, r := range o.Readings() {
		if x.contradicts(r) {
			return 0, api.ErrConflict
		}
		if !x.has(r.At) {
			fresh = append(fresh, r)
		}
	}
	if len(x.values)+len(fresh) > api.MaxReadings {
		return 0, api.ErrFull
	}
	for _, r := range fresh {
		x.values[r.At] = r.Values // the copy that Readings made
	}
	return len(fresh), api.OK
}

// Readings returns all readings.
func (x *Log) Readings() []api.Reading {
	var l []api.Reading
	for _, at := range slices.Sorted(maps.Keys(x.values)) {
		l = append(l, clone(api.Reading{At: at, Values: x.values[at]}))
	}
	return l
}

// has reports whether there is a reading at a moment.
func (x *Log) has(at int) bool {
	_, ok := x.values[at]
	return ok
}

// contradicts reports whether there is another reading with the same At.
func (x *Log) contradicts(r api.Reading) bool {
	return x.has(r.At) && !slices.Equal(x.values[r.At], r.Values)
}
