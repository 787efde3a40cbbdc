package review

import (
	"cmp"
	"slices"
	"strings"

	"paperchase/api"
	"paperchase/shape"
)

// entry is a right decision with the rank of its Values.
type entry struct {
	api.Decision
	rank string
}

// Check validates decisions.
func Check(l api.Layout, d []api.Decision) api.Errno {
	_, _, e := entriesOf(l, d)
	return e
}

// entriesOf validates a layout and decisions, and returns its guide and their entries.
func entriesOf(l api.Layout, d []api.Decision) (guide, []entry, api.Errno) {
	g, e := guideOf(l)
	if e != api.OK {
		return guide{}, nil, e
	}
	all, e := g.entries(d)
	if e != api.OK {
		return guide{}, nil, e
	}
	return g, all, api.OK
}

// entriesAt is entriesOf for functions that also take a moment.
func entriesAt(l api.Layout, d []api.Decision, at int) (guide, []entry, api.Errno) {
	g, all, e := entriesOf(l, d)
	if e == api.OK && !shape.Moment(at) {
		return guide{}, nil, api.ErrArg
	}
	return g, all, e
}

func (g guide) entries(d []api.Decision) ([]entry, api.Errno) {
	if len(d) > api.MaxDecisions {
		return nil, api.ErrLarge
	}
	all := make([]entry, len(d))
	for i, x := range d {
		if x.No != i+1 {
			return nil, api.ErrArg
		}
		one, e := g.entry(x)
		if e != api.OK {
			return nil, e
		}
		all[i] = one
	}
	return all, api.OK
}

// entry validates what a decision has beside its No.
func (g guide) entry(x api.Decision) (entry, api.Errno) {
	if !shape.Moment(x.At) {
		return entry{}, api.ErrArg
	}
	if !shape.Key(x.Reviewer) || !shape.Key(x.Item) {
		return entry{}, api.ErrName
	}
	rank, e := g.rankOf(x.Values)
	if e != api.OK {
		return entry{}, e
	}
	if len(x.Values) == 0 {
		return entry{}, api.ErrForm
	}
	if slices.ContainsFunc(g.rules, func(r api.Rule) bool { return isBroken(r, x.Values) }) {
		return entry{}, api.ErrRule
	}
	return entry{x, rank}, api.OK
}

// decisionsOf returns the decisions of entries in new memory, with Nos from 1 on.
func decisionsOf(all []entry) []api.Decision {
	d := make([]api.Decision, len(all))
	for i, x := range all {
		d[i] = x.Decision
		d[i].No, d[i].Values = i+1, copyValues(x.Values)
	}
	return d
}

// Decide adds a decision.
func Decide(l api.Layout, d []api.Decision, n api.Decision) ([]api.Decision, api.Errno) {
	g, all, e := entriesOf(l, d)
	if e != api.OK {
		return nil, e
	}
	if len(d) == api.MaxDecisions {
		return nil, api.ErrFull
	}
	one, e := g.entry(n)
	if e != api.OK {
		return nil, e
	}
	return decisionsOf(slices.Concat(all, []entry{one})), api.OK
}

// Merge returns the decisions of two lists.
func Merge(l api.Layout, a, b []api.Decision) ([]api.Decision, api.Errno) {
	g, all, e := entriesOf(l, a)
	if e != api.OK {
		return nil, e
	}
	more, e := g.entries(b)
	if e != api.OK {
		return nil, e
	}
	all = append(all, more...)
	slices.SortFunc(all, compare)
	all = slices.CompactFunc(all, func(x, y entry) bool { return compare(x, y) == 0 })
	if len(all) > api.MaxDecisions {
		return nil, api.ErrFull
	}
	return decisionsOf(all), api.OK
}

// compare compares decisions by all but their Nos, in the order of Merge.
func compare(a, b entry) int {
	return cmp.Or(cmp.Compare(a.At, b.At), strings.Compare(a.Item, b.Item), strings.Compare(a.Reviewer, b.Reviewer), compareLooks(a, b), strings.Compare(a.rank, b.rank))
}

// compareTime says which of two decisions on the same item is the later one.
func compareTime(a, b entry) int {
	return cmp.Or(cmp.Compare(a.At, b.At), compareLooks(a, b), strings.Compare(a.Reviewer, b.Reviewer), strings.Compare(a.rank, b.rank))
}

// compareLooks puts second looks after others.
func compareLooks(a, b entry) int {
	switch {
	case a.Second == b.Second:
		return 0
	case b.Second:
		return -1
	}
	return 1
}

// latest returns the latest decision on each item, of those that count.
func latest(all []entry, counts func(x entry) bool) map[string]entry {
	last := map[string]entry{}
	for _, x := range all {
		if !counts(x) {
			continue
		}
		if old, ok := last[x.Item]; !ok || compareTime(x, old) > 0 {
			last[x.Item] = x
		}
	}
	return last
}
