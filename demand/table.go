package demand

import (
	"coilrack/api"
	"coilrack/terms"
)

// CheckTable says what is wrong with a table.
func CheckTable(t api.Table) api.Errno {
	if len(t.Share) == 0 {
		return api.ErrNone
	}
	if len(t.Share) > api.MaxProducts {
		return api.ErrLarge
	}
	for i, row := range t.Share {
		if len(row) != len(t.Share) {
			return api.ErrForm
		}
		if !terms.AllBetween(row, 0, 100) || row[i] != 0 || total(row) > 100 {
			return api.ErrArg
		}
	}
	return api.OK
}

// Instead returns what is sold and what is lost, if something else is taken.
func Instead(t api.Table, wants, stock []int) (sold, lost []int, e api.Errno) {
	if e = checkInstead(t, wants, stock); e != api.OK {
		return nil, nil, e
	}
	sold = make([]int, len(wants))
	lost = make([]int, len(wants))
	for i, n := range wants {
		sold[i] = min(n, stock[i])
		lost[i] = n - sold[i]
	}
	for i, row := range t.Share {
		left := lost[i] // before somebody takes another one
		for j, percent := range row {
			n := min(left*percent/100, stock[j]-sold[j])
			sold[j] += n
			lost[i] -= n
		}
	}
	return sold, lost, api.OK
}

// checkInstead says what is wrong with a table, what is wanted, and what is there.
func checkInstead(t api.Table, wants, stock []int) api.Errno {
	if e := CheckTable(t); e != api.OK {
		return e
	}
	if len(wants) != len(t.Share) || len(stock) != len(t.Share) {
		return api.ErrForm
	}
	if !terms.AllBetween(wants, 0, maxCrowd) || !terms.AllBetween(stock, 0, maxCrowd) {
		return api.ErrArg
	}
	return api.OK
}
