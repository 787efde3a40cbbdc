// Package hold says what must be kept, who is told so, and what may be destroyed when.
package hold

import (
	"slices"
	"strings"

	"paperchase/api"
	"paperchase/query"
	"paperchase/sets"
	"paperchase/shape"
)

// notReleased is the Released of a hold that is not.
const notReleased = -1

// scope is a hold with the search that is written in its Query.
type scope struct {
	api.Hold
	search api.Query
}

// Check validates holds.
func Check(l []api.Hold) api.Errno {
	_, e := scopesOf(l)
	return e
}

// scopesOf validates holds, and returns their scopes.
func scopesOf(l []api.Hold) ([]scope, api.Errno) {
	if len(l) > api.MaxHolds {
		return nil, api.ErrLarge
	}
	var all []scope
	last := ""
	for _, h := range l {
		if e := checkKey(h.Key, last); e != api.OK {
			return nil, e
		}
		s, e := scopeOf(h)
		if e != api.OK {
			return nil, e
		}
		all = append(all, s)
		last = h.Key
	}
	return all, api.OK
}

// scopeOfOne is scopesOf for one hold.
func scopeOfOne(h api.Hold) (scope, api.Errno) {
	all, e := scopesOf([]api.Hold{h})
	if e != api.OK {
		return scope{}, e
	}
	return all[0], api.OK
}

// checkKey validates a key that comes after another one; empty: after none.
func checkKey(key, before string) api.Errno {
	if !shape.Key(key) {
		return api.ErrName
	}
	if key <= before {
		return api.ErrOrder
	}
	return api.OK
}

// scopeOf validates what a hold has beside its Key, and returns its scope.
func scopeOf(h api.Hold) (scope, api.Errno) {
	if !shape.Moment(h.At) || h.Released != notReleased && !canRelease(h, h.Released) {
		return scope{}, api.ErrArg
	}
	if e := checkWho(h.Custodians, h.Kinds); e != api.OK {
		return scope{}, e
	}
	if !shape.Window(h.Window) {
		return scope{}, api.ErrArg
	}
	if h.Query == "" {
		return scope{Hold: h}, api.OK
	}
	search, _, e := query.Parse(h.Query)
	if e != api.OK {
		return scope{}, api.ErrSyntax
	}
	return scope{h, search}, api.OK
}

func canRelease(h api.Hold, at int) bool { return shape.Moment(at) && at >= h.At }

// checkWho validates the custodians and the kinds of a hold or a schedule.
func checkWho(custodians []string, kinds []int) api.Errno {
	if len(custodians) > api.MaxPeople {
		return api.ErrLarge
	}
	if e := sets.Rising(custodians, shape.Key, api.ErrName); e != api.OK {
		return e
	}
	return sets.Rising(kinds, shape.IsKind, api.ErrKind)
}

// find returns the place of the hold with a key, and whether there is one.
func find(l []api.Hold, key string) (int, bool) {
	return slices.BinarySearchFunc(l, key, func(h api.Hold, key string) int { return strings.Compare(h.Key, key) })
}

func isReleased(h api.Hold, at int) bool { return h.Released != notReleased && h.Released <= at }

func isOpen(h api.Hold, at int) bool { return h.At <= at && !isReleased(h, at) }

// openAt returns the scopes of the holds that are open at a moment.
func openAt(all []scope, at int) []scope {
	var l []scope
	for _, s := range all {
		if isOpen(s.Hold, at) {
			l = append(l, s)
		}
	}
	return l
}

// Release releases a hold.
func Release(l []api.Hold, key string, at int) ([]api.Hold, api.Errno) {
	if e := Check(l); e != api.OK {
		return nil, e
	}
	i, ok := find(l, key)
	switch {
	case !ok:
		return nil, api.ErrNone
	case l[i].Released != notReleased:
		return nil, api.ErrState
	case !canRelease(l[i], at):
		return nil, api.ErrArg
	}
	holds := make([]api.Hold, len(l))
	for k, h := range l {
		h.Custodians, h.Kinds = slices.Clone(h.Custodians), slices.Clone(h.Kinds)
		holds[k] = h
	}
	holds[i].Released = at
	return holds, api.OK
}
