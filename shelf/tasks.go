package shelf

import (
	"slices"

	"coilrack/api"
	"coilrack/terms"
)

// Tasks returns what makes a layout of another one.
func Tasks(a, b []string) ([]api.Task, api.Errno) {
	slots, e := Changed(a, b)
	if e != api.OK {
		return nil, e
	}
	if e := checkProducts(slices.Concat(a, b)); e != api.OK {
		return nil, e
	}
	var tasks []api.Task
	for _, i := range slots {
		tasks = append(tasks, api.Task{Slot: i, From: a[i], To: b[i]})
	}
	return tasks, api.OK
}

// Do makes tasks.
func Do(x []string, t []api.Task) ([]string, api.Errno) {
	if len(x) > api.MaxRackSlots {
		return nil, api.ErrLarge
	}
	y := slices.Clone(x)
	for i, k := range t {
		switch {
		case !terms.Between(k.Slot, 0, len(x)-1):
			return nil, api.ErrArg
		case i > 0 && k.Slot <= t[i-1].Slot:
			return nil, api.ErrOrder
		case k.From != x[k.Slot]:
			return nil, api.ErrConflict
		case k.From == k.To:
			return nil, api.ErrForm
		case !isProduct(k.To):
			return nil, api.ErrName
		}
		y[k.Slot] = k.To
	}
	return y, api.OK
}
