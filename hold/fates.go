package hold

import (
	"slices"

	"paperchase/api"
	"paperchase/intake"
	"paperchase/shape"
)

// relative is an item of a family: its term, and the key of the first hold that holds it; empty: none does.
type relative struct {
	hold string
	term
}

// relativesOf returns what schedules, and scopes of open holds, say of the items of a family.
func relativesOf(s []api.Schedule, open []scope, members []api.Item) []relative {
	var l []relative
	for i, t := range termsOf(s, members) {
		r := relative{term: t}
		if first := firstWith(open, members[i]); first >= 0 {
			r.hold = open[first].Key
		}
		l = append(l, r)
	}
	return l
}

// fateOf returns the fate of the items of a family that no hold has in its scope; with FateOver without the Key, which is each one's own.
func fateOf(family []relative, at int) api.Fate {
	if i := slices.IndexFunc(family, func(r relative) bool { return r.hold != "" }); i >= 0 {
		return api.Fate{Why: api.FateWithHeld, Key: family[i].hold}
	}
	if i := slices.IndexFunc(family, func(r relative) bool { return r.until > at }); i >= 0 {
		return api.Fate{Why: api.FateKept, Key: family[i].key}
	}
	if slices.ContainsFunc(family, func(r relative) bool { return r.key == "" }) {
		return api.Fate{Why: api.FateNone}
	}
	return api.Fate{May: true, Why: api.FateOver}
}

// fatesOf returns the fates of the items of a family.
func fatesOf(family []relative, at int) []api.Fate {
	shared := fateOf(family, at)
	var l []api.Fate
	for _, r := range family {
		fate := shared
		switch {
		case r.hold != "":
			fate = api.Fate{Why: api.FateHeld, Key: r.hold}
		case shared.May:
			fate.Key = r.key
		}
		l = append(l, fate)
	}
	return l
}

// Fates returns the fates of items.
func Fates(s []api.Schedule, h []api.Hold, l []api.Item, at int) ([]api.Fate, api.Errno) {
	if e := CheckSchedules(s); e != api.OK {
		return nil, e
	}
	all, e := scopesOf(h)
	if e != api.OK {
		return nil, e
	}
	families, e := intake.Families(l)
	if e != api.OK {
		return nil, e
	}
	if !shape.Moment(at) {
		return nil, api.ErrArg
	}
	open := openAt(all, at)
	byId := map[string]api.Fate{}
	for _, f := range families {
		fates := fatesOf(relativesOf(s, open, membersOf(l, f)), at)
		for i, id := range f.Items {
			byId[id] = fates[i]
		}
	}
	fates := make([]api.Fate, len(l))
	for i, x := range l {
		fates[i] = byId[x.Id]
	}
	return fates, api.OK
}

// Destroy returns the items that are left, and those that are gone.
func Destroy(s []api.Schedule, h []api.Hold, l []api.Item, at int) ([]api.Item, []string, api.Errno) {
	fates, e := Fates(s, h, l, at)
	if e != api.OK {
		return nil, nil, e
	}
	var left []api.Item
	var gone []string
	for i, x := range l {
		if fates[i].May {
			gone = append(gone, x.Id)
		} else {
			left = append(left, x)
		}
	}
	return left, gone, api.OK
}

// Next returns the least moment, from a moment on, at which an item may be destroyed.
func Next(s []api.Schedule, h []api.Hold, l []api.Item, id string, at int) (int, api.Errno) {
	if e := CheckSchedules(s); e != api.OK {
		return 0, e
	}
	all, e := scopesOf(h)
	if e != api.OK {
		return 0, e
	}
	family, e := intake.FamilyOf(l, id)
	if e != api.OK {
		return 0, e
	}
	if !shape.Moment(at) {
		return 0, api.ErrArg
	}
	members := membersOf(l, family)
	over, ok := overFrom(s, members)
	if !ok {
		return 0, api.ErrRule
	}
	moment, ok := freeFrom(holdsOf(all, members), max(at, over))
	if !ok || !shape.Moment(moment) {
		return 0, api.ErrRule
	}
	return moment, api.OK
}

// overFrom returns from when on no schedule keeps an item of a family; false if some item has no schedule.
func overFrom(s []api.Schedule, members []api.Item) (int, bool) {
	over := 0
	for _, t := range termsOf(s, members) {
		if t.key == "" {
			return 0, false
		}
		over = max(over, t.until)
	}
	return over, true
}

// holdsOf returns the holds with some of the items in their scope.
func holdsOf(all []scope, members []api.Item) []api.Hold {
	var l []api.Hold
	for _, s := range all {
		if slices.ContainsFunc(members, s.has) {
			l = append(l, s.Hold)
		}
	}
	return l
}

// freeFrom returns the least moment, from a moment on, at which none of some holds is open; false if there is none.
func freeFrom(l []api.Hold, moment int) (int, bool) {
	for {
		i := slices.IndexFunc(l, func(h api.Hold) bool { return isOpen(h, moment) })
		if i < 0 {
			return moment, true
		}
		if l[i].Released == notReleased {
			return 0, false
		}
		moment = l[i].Released
	}
}
