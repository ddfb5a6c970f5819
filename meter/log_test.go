package meter_test

import (
	"math/rand"
	"testing"

	"coilrack/api"
	"coilrack/meter"
)

func newLog(t *testing.T, m api.Meter) *meter.Log {
	t.Helper()
	x, e := meter.NewLog(m)
	if e != api.OK || x == nil {
		t.Fatal("NewLog", x, e)
	}
	return x
}

// put puts readings that are all new.
func put(t *testing.T, x *meter.Log, l ...api.Reading) {
	t.Helper()
	for _, r := range l {
		if is, e := x.Put(r); !is || e != api.OK {
			t.Fatalf("Put %v: %v %d", r, is, e)
		}
	}
}

func has(t *testing.T, x *meter.Log, want ...api.Reading) {
	t.Helper()
	if l := x.Readings(); !same(l, want) {
		t.Errorf("Readings: %v, not %v", l, want)
	}
}

// P2.5: logs are of meters that can be.
func TestNewLog(t *testing.T) {
	for _, m := range badMeters() {
		if x, e := meter.NewLog(m); x != nil || e != api.ErrArg {
			t.Errorf("%v: %v %d", m, x, e)
		}
	}
	has(t, newLog(t, two()))
}

// P2.5: a log adds each reading once.
func TestPut(t *testing.T) {
	x := newLog(t, two())
	put(t, x, reading(9, 1, 2), reading(0, 5, 5), reading(7, 0, 0), reading(api.End-1, 1, 2))
	for _, c := range []struct {
		r    api.Reading
		want api.Errno
	}{
		{reading(9, 1, 2), api.OK},
		{reading(0, 5, 5), api.OK},
		{reading(9, 1, 3), api.ErrConflict},
		{reading(7, 1, 0), api.ErrConflict},
		{reading(9, 1, 100), api.ErrArg},
		{reading(9, 1), api.ErrForm},
		{reading(-1, 1, 2), api.ErrArg},
		{reading(api.End, 1, 2), api.ErrArg},
	} {
		if is, e := x.Put(c.r); is || e != c.want {
			t.Errorf("%v: %v %d", c.r, is, e)
		}
	}
	has(t, x, reading(0, 5, 5), reading(7, 0, 0), reading(9, 1, 2), reading(api.End-1, 1, 2))
}

// P2.5: a log that is full.
func TestPutFull(t *testing.T) {
	x := newLog(t, two())
	full := manyReadings(api.MaxReadings)
	put(t, x, shuffled(rand.New(rand.NewSource(6)), full)...)
	for _, c := range []struct {
		r    api.Reading
		want api.Errno
	}{
		{reading(api.MaxReadings, 0, 0), api.ErrFull},
		{reading(5, 5, 0), api.ErrFull}, // it is there, but the error holds for whatever is put
		{reading(5, 6, 0), api.ErrConflict},
		{reading(5, 5), api.ErrForm},
	} {
		if is, e := x.Put(c.r); is || e != c.want {
			t.Errorf("%v: %v %d", c.r, is, e)
		}
	}
	has(t, x, full...)
}

// P2.5: a log joins another one.
func TestJoin(t *testing.T) {
	x, o := newLog(t, two()), newLog(t, two())
	put(t, x, reading(5, 1, 2), reading(1, 3, 4))
	put(t, o, reading(5, 1, 2), reading(9, 0, 0), reading(3, 1, 1))
	if n, e := x.Join(o); n != 2 || e != api.OK {
		t.Error(n, e)
	}
	all := []api.Reading{reading(1, 3, 4), reading(3, 1, 1), reading(5, 1, 2), reading(9, 0, 0)}
	has(t, x, all...)
	has(t, o, reading(3, 1, 1), reading(5, 1, 2), reading(9, 0, 0))
	for _, other := range []*meter.Log{o, x, newLog(t, two())} {
		if n, e := x.Join(other); n != 0 || e != api.OK {
			t.Error(n, e)
		}
	}
	has(t, x, all...)
	if n, e := o.Join(x); n != 1 || e != api.OK {
		t.Error(n, e)
	}
	has(t, o, all...)
	empty := newLog(t, two())
	if n, e := empty.Join(x); n != 4 || e != api.OK {
		t.Error(n, e)
	}
	has(t, empty, all...)
}

// P2.5: what Join refuses, in which order, and that nothing is added then.
func TestJoinErrors(t *testing.T) {
	x := newLog(t, two())
	full := manyReadings(api.MaxReadings)
	put(t, x, full[1:]...)
	for _, m := range []api.Meter{{Counters: 1, Turn: 100, Fast: 50}, {Counters: 2, Turn: 101, Fast: 50}, {Counters: 2, Turn: 100, Fast: 49}} {
		if n, e := x.Join(newLog(t, m)); n != 0 || e != api.ErrForm {
			t.Errorf("%v: %d %d", m, n, e)
		}
	}
	conflict := newLog(t, two())
	put(t, conflict, full[0], reading(5_000, 0, 0), reading(7, 7, 1), reading(5_001, 0, 0))
	if n, e := x.Join(conflict); n != 0 || e != api.ErrConflict {
		t.Error(n, e)
	}
	large := newLog(t, two())
	put(t, large, full[0], full[5], reading(5_000, 0, 0))
	if n, e := x.Join(large); n != 0 || e != api.ErrFull {
		t.Error(n, e)
	}
	has(t, x, full[1:]...)
	fits := newLog(t, two())
	put(t, fits, full[0], full[5])
	if n, e := x.Join(fits); n != 1 || e != api.OK {
		t.Error(n, e)
	}
	has(t, x, full...)
	if n, e := x.Join(fits); n != 0 || e != api.OK {
		t.Error("nothing new for a full log", n, e)
	}
	if n, e := x.Join(large); n != 0 || e != api.ErrFull {
		t.Error(n, e)
	}
}

// P2.5: readings that are told in any order and in parts are the same in the end.
func TestLogsOfSome(t *testing.T) {
	r := rand.New(rand.NewSource(7))
	for range 100 {
		l := someReadings(r, two(), 20)
		whole := newLog(t, two())
		parts := []*meter.Log{newLog(t, two()), newLog(t, two())}
		for _, x := range shuffled(r, l) {
			put(t, parts[r.Intn(2)], x)
		}
		for _, x := range shuffled(r, l) {
			if r.Intn(3) == 0 {
				parts[r.Intn(2)].Put(x)
			}
		}
		sum := 0
		for _, p := range parts {
			n, e := whole.Join(p)
			if e != api.OK {
				t.Fatal(e)
			}
			sum += n
		}
		has(t, whole, l...)
		if sum != len(l) {
			t.Fatal(sum, len(l))
		}
	}
}
