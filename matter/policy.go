package matter

import (
	"maps"
	"slices"

	"paperchase/api"
	"paperchase/intake"
	"paperchase/sets"
	"paperchase/shape"
)

const maxMust = 20

// CheckPolicy validates a policy.
func CheckPolicy(p api.Policy) api.Errno {
	switch {
	case !shape.Key(p.Field) || !shape.Key(p.Secret):
		return api.ErrName
	case p.Yes == "" || p.No == "" || !isValue(p.Yes) || !isValue(p.No):
		return api.ErrForm
	case p.Yes == p.No:
		return api.ErrConflict
	case len(p.Must) > maxMust:
		return api.ErrLarge
	}
	return sets.Rising(p.Must, shape.Key, api.ErrName)
}

// recordsFor validates what Rulings and Open go by, and returns the records of all items.
func recordsFor(items []api.Item, l []api.Deed, p api.Policy) (map[string]record, api.Errno) {
	if _, e := CheckDeeds(l); e != api.OK {
		return nil, e
	}
	if e := intake.Check(items); e != api.OK {
		return nil, e
	}
	if e := CheckPolicy(p); e != api.OK {
		return nil, e
	}
	return ledgerOf(l).records(), api.OK
}

// Rulings makes rulings of what was decided.
func Rulings(items []api.Item, l []api.Deed, p api.Policy) ([]api.Ruling, api.Errno) {
	records, e := recordsFor(items, l, p)
	if e != api.OK {
		return nil, e
	}
	return rulings(items, records, p), api.OK
}

// rulings is Rulings for what is right.
func rulings(items []api.Item, records map[string]record, p api.Policy) []api.Ruling {
	var l []api.Ruling
	for _, x := range items {
		r := records[x.Id]
		ruling := api.Ruling{Id: x.Id, What: api.RuleLeave}
		switch {
		case slices.Contains(r.labels(), p.Secret):
			ruling.What = api.RuleHold
		case r.value(p.Field) == p.Yes:
			ruling.What = api.RuleShow
			ruling.Spans = cut(r.spans(), len(x.Text))
		}
		l = append(l, ruling)
	}
	return l
}

// cut leaves out of spans what is beyond a size.
func cut(l []api.Span, size int) []api.Span {
	var within []api.Span
	for _, s := range l {
		if s.From < size {
			within = append(within, api.Span{From: s.From, To: min(s.To, size)})
		}
	}
	return within
}

// Open returns what is lacking.
func Open(items []api.Item, l []api.Deed, p api.Policy) ([]api.Lack, api.Errno) {
	records, e := recordsFor(items, l, p)
	if e != api.OK {
		return nil, e
	}
	return lacks(items, records, p), api.OK
}

// lacks is Open for what is right.
func lacks(items []api.Item, records map[string]record, p api.Policy) []api.Lack {
	isOpen := func(id string) bool {
		value := records[id].value(p.Field)
		return value != p.Yes && value != p.No
	}
	open := openFamilies(items, isOpen)
	var l []api.Lack
	for _, x := range items {
		add := func(why int, field string) { l = append(l, api.Lack{Id: x.Id, Why: why, Field: field}) }
		r := records[x.Id]
		wanted := r.value(p.Field) == p.Yes
		if isOpen(x.Id) {
			add(api.LackDecision, "")
		}
		for _, field := range p.Must {
			if wanted && r.value(field) == "" {
				add(api.LackField, field)
			}
		}
		for d := range r.of(api.DeedCover) {
			if d.Span.To > len(x.Text) {
				add(api.LackSpan, "")
			}
		}
		if wanted && open[x.Id] {
			add(api.LackFamily, "")
		}
	}
	return l
}

// openFamilies returns for each of right items whether one of its family is open.
func openFamilies(items []api.Item, isOpen func(id string) bool) map[string]bool {
	open := map[string]bool{}
	families, _ := intake.Families(items)
	for _, f := range families {
		some := slices.ContainsFunc(f.Items, isOpen)
		for _, id := range f.Items {
			open[id] = some
		}
	}
	return open
}

// Tally counts the values of a field.
func Tally(items []api.Item, l []api.Deed, field string) ([]api.Valued, api.Errno) {
	if _, e := CheckDeeds(l); e != api.OK {
		return nil, e
	}
	if e := intake.Check(items); e != api.OK {
		return nil, e
	}
	if !shape.Key(field) {
		return nil, api.ErrName
	}
	records := ledgerOf(l).records()
	many := map[string]int{}
	for _, x := range items {
		many[records[x.Id].value(field)]++
	}
	var all []api.Valued
	for _, value := range slices.Sorted(maps.Keys(many)) {
		all = append(all, api.Valued{Value: value, Many: many[value]})
	}
	return all, api.OK
}
