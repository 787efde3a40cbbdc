package hold

import (
	"slices"

	"paperchase/api"
	"paperchase/intake"
	"paperchase/query"
	"paperchase/sets"
	"paperchase/shape"
)

// has says whether a right item is in the scope.
func (s scope) has(x api.Item) bool {
	if !sets.Admits(s.Custodians, x.Custodian) || !sets.Admits(s.Kinds, x.Kind) || x.At < s.Window.From || x.At >= s.Window.To {
		return false
	}
	if s.Query == "" {
		return true
	}
	found, _ := query.Matches(s.search, x)
	return found
}

// firstWith returns the place of the first scope that has a right item; -1 if none has it.
func firstWith(all []scope, x api.Item) int {
	return slices.IndexFunc(all, func(s scope) bool { return s.has(x) })
}

// InScope says whether an item is in the scope of a hold.
func InScope(h api.Hold, x api.Item) (bool, api.Errno) {
	s, e := scopeOfOne(h)
	if e != api.OK {
		return false, e
	}
	if e := intake.CheckItem(x); e != api.OK {
		return false, e
	}
	return s.has(x), api.OK
}

// Held returns the holds that have an item at a moment.
func Held(l []api.Hold, x api.Item, at int) ([]string, api.Errno) {
	all, e := scopesOf(l)
	if e != api.OK {
		return nil, e
	}
	if e := intake.CheckItem(x); e != api.OK {
		return nil, e
	}
	if !shape.Moment(at) {
		return nil, api.ErrArg
	}
	var keys []string
	for _, s := range openAt(all, at) {
		if s.has(x) {
			keys = append(keys, s.Key)
		}
	}
	return keys, api.OK
}

// itemsOf returns the items of a list that are in the scope of a hold.
func itemsOf(h api.Hold, l []api.Item) ([]api.Item, api.Errno) {
	s, e := scopeOfOne(h)
	if e != api.OK {
		return nil, e
	}
	if e := intake.Check(l); e != api.OK {
		return nil, e
	}
	var some []api.Item
	for _, x := range l {
		if s.has(x) {
			some = append(some, x)
		}
	}
	return some, api.OK
}

// Scope returns the items that are in the scope of a hold.
func Scope(h api.Hold, l []api.Item) ([]string, api.Errno) {
	some, e := itemsOf(h, l)
	if e != api.OK {
		return nil, e
	}
	var ids []string
	for _, x := range some {
		ids = append(ids, x.Id)
	}
	return ids, api.OK
}

// Custodians returns the custodians of a hold, and of the items in its scope.
func Custodians(h api.Hold, l []api.Item) ([]string, api.Errno) {
	some, e := itemsOf(h, l)
	if e != api.OK {
		return nil, e
	}
	people := slices.Clone(h.Custodians)
	for _, x := range some {
		people = append(people, x.Custodian)
	}
	slices.Sort(people)
	return slices.Compact(people), api.OK
}

// Alone returns the items that only one hold keeps.
func Alone(l []api.Hold, items []api.Item, key string, at int) ([]string, api.Errno) {
	all, e := scopesOf(l)
	if e != api.OK {
		return nil, e
	}
	if e := intake.Check(items); e != api.OK {
		return nil, e
	}
	if _, ok := find(l, key); !ok {
		return nil, api.ErrNone
	}
	if !shape.Moment(at) {
		return nil, api.ErrArg
	}
	open := openAt(all, at)
	var ids []string
	for _, x := range items {
		if i := firstWith(open, x); i >= 0 && open[i].Key == key && firstWith(open[i+1:], x) < 0 {
			ids = append(ids, x.Id)
		}
	}
	return ids, api.OK
}
