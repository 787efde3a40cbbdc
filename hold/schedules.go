package hold

import (
	"slices"
	"strings"

	"paperchase/api"
	"paperchase/intake"
	"paperchase/sets"
)

// CheckSchedules validates schedules.
func CheckSchedules(l []api.Schedule) api.Errno {
	if len(l) > api.MaxSchedules {
		return api.ErrLarge
	}
	last := ""
	for _, s := range l {
		if e := checkKey(s.Key, last); e != api.OK {
			return e
		}
		if e := checkWho(s.Custodians, s.Kinds); e != api.OK {
			return e
		}
		if s.Days < 0 || s.Days > api.MaxDay {
			return api.ErrArg
		}
		last = s.Key
	}
	return api.OK
}

// term says until when an item is kept, and by which schedule; an empty key: none is for it.
type term struct {
	until int
	key   string
}

// termsOf returns the terms of the items of a family.
func termsOf(l []api.Schedule, members []api.Item) []term {
	last := 0
	for _, x := range members {
		last = max(last, x.At)
	}
	var terms []term
	for _, x := range members {
		terms = append(terms, termOf(l, x, last))
	}
	return terms
}

// termOf returns the term of an item of a family with a last moment.
func termOf(l []api.Schedule, x api.Item, last int) term {
	var longest term
	for _, s := range l {
		if !sets.Admits(s.Custodians, x.Custodian) || !sets.Admits(s.Kinds, x.Kind) {
			continue
		}
		from := x.At
		if s.Last {
			from = last
		}
		until := min(from+s.Days*api.DayLong, api.End)
		if longest.key == "" || until > longest.until {
			longest = term{until, s.Key}
		}
	}
	return longest
}

// itemOf returns the item of a right list with an Id that is there.
func itemOf(l []api.Item, id string) api.Item {
	i, _ := slices.BinarySearchFunc(l, id, func(x api.Item, id string) int { return strings.Compare(x.Id, id) })
	return l[i]
}

// membersOf returns the items of a family, in its order.
func membersOf(l []api.Item, f api.Family) []api.Item {
	var members []api.Item
	for _, id := range f.Items {
		members = append(members, itemOf(l, id))
	}
	return members
}

// Until returns until when an item is kept, and by which schedule.
func Until(s []api.Schedule, l []api.Item, id string) (int, string, api.Errno) {
	if e := CheckSchedules(s); e != api.OK {
		return 0, "", e
	}
	family, e := intake.FamilyOf(l, id)
	if e != api.OK {
		return 0, "", e
	}
	t := termsOf(s, membersOf(l, family))[slices.Index(family.Items, id)]
	if t.key == "" {
		return 0, "", api.ErrRule
	}
	return t.until, t.key, api.OK
}
