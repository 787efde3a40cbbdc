package intake

import (
	"paperchase/api"
	"paperchase/sets"
	"paperchase/shape"
)

// stays is instead of a reason why an item is left out.
const stays = 0

// CheckFilter validates a filter.
func CheckFilter(f api.Filter) api.Errno {
	if e := sets.Rising(f.Kinds, shape.IsKind, api.ErrKind); e != api.OK {
		return e
	}
	if len(f.Custodians) > api.MaxPeople {
		return api.ErrLarge
	}
	if e := sets.Rising(f.Custodians, shape.Key, api.ErrName); e != api.OK {
		return e
	}
	if !shape.Window(f.Window) {
		return api.ErrArg
	}
	if len(f.Known) > api.MaxSums {
		return api.ErrLarge
	}
	return sets.Rising(f.Known, isDigest, api.ErrForm)
}

// why returns the first reason why a filter leaves an item out.
func why(x api.Item, f api.Filter) int {
	switch {
	case !sets.Admits(f.Kinds, x.Kind):
		return api.LeftKind
	case !sets.Admits(f.Custodians, x.Custodian):
		return api.LeftCustodian
	case x.At < f.Window.From:
		return api.LeftEarly
	case x.At >= f.Window.To:
		return api.LeftLate
	case len(f.Known) > 0 && sets.Has(f.Known, sumOf(x)):
		return api.LeftKnown
	}
	return stays
}

// Keep returns what a filter keeps, and what it leaves out.
func Keep(l []api.Item, filter api.Filter) ([]string, []api.Left, api.Errno) {
	f, e := grow(l)
	if e != api.OK {
		return nil, nil, e
	}
	if e := CheckFilter(filter); e != api.OK {
		return nil, nil, e
	}
	whys := make([]int, len(l))
	keeps := map[int]bool{} // tops of families
	for i, x := range l {
		whys[i] = why(x, filter)
		if whys[i] == stays {
			keeps[f.top(i)] = true
		}
	}
	var kept []string
	var left []api.Left
	for i, x := range l {
		if keeps[f.top(i)] {
			kept = append(kept, x.Id)
		} else {
			left = append(left, api.Left{Id: x.Id, Why: whys[i]})
		}
	}
	return kept, left, api.OK
}
