package intake

import (
	"slices"

	"paperchase/api"
	"paperchase/shape"
)

// stays is instead of a reason why an item is left out.
const stays = 0

// CheckFilter validates a filter.
func CheckFilter(f api.Filter) api.Errno {
	if e := rising(f.Kinds, func(kind int) bool { return shape.KindWord(kind) != "" }, api.ErrKind); e != api.OK {
		return e
	}
	if len(f.Custodians) > api.MaxPeople {
		return api.ErrLarge
	}
	if e := rising(f.Custodians, shape.Key, api.ErrName); e != api.OK {
		return e
	}
	if f.Window.From < 0 || f.Window.From > f.Window.To || f.Window.To > api.End {
		return api.ErrArg
	}
	if len(f.Known) > api.MaxSums {
		return api.ErrLarge
	}
	return rising(f.Known, isDigest, api.ErrForm)
}

// rising checks that each value is right, with an error of its own, and greater than the one before.
func rising[T int | string](l []T, right func(T) bool, wrong api.Errno) api.Errno {
	for i, x := range l {
		if !right(x) {
			return wrong
		}
		if i > 0 && x <= l[i-1] {
			return api.ErrOrder
		}
	}
	return api.OK
}

// why returns the first reason why a filter leaves an item out.
func why(x api.Item, f api.Filter) int {
	switch {
	case len(f.Kinds) > 0 && !slices.Contains(f.Kinds, x.Kind):
		return api.LeftKind
	case len(f.Custodians) > 0 && !among(f.Custodians, x.Custodian):
		return api.LeftCustodian
	case x.At < f.Window.From:
		return api.LeftEarly
	case x.At >= f.Window.To:
		return api.LeftLate
	case len(f.Known) > 0 && among(f.Known, sumOf(x)):
		return api.LeftKnown
	}
	return stays
}

func among(sorted []string, s string) bool {
	_, ok := slices.BinarySearch(sorted, s)
	return ok
}

// Keep returns what a filter keeps, and what it leaves out.
func Keep(l []api.Item, filter api.Filter) ([]string, []api.Left, api.Errno) {
	f, e := grow(l)
	if e != api.OK {
		return nil, nil, e
	}
	if e := CheckFilter(filter); e != api.OK {
		return nil, nil, e
	}
	whys := make([]int, len(l))
	keeps := map[int]bool{} // tops of families
	for i, x := range l {
		whys[i] = why(x, filter)
		if whys[i] == stays {
			keeps[f.top(i)] = true
		}
	}
	var kept []string
	var left []api.Left
	for i, x := range l {
		if keeps[f.top(i)] {
			kept = append(kept, x.Id)
		} else {
			left = append(left, api.Left{Id: x.Id, Why: whys[i]})
		}
	}
	return kept, left, api.OK
}
