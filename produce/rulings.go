package produce

import (
	"cmp"
	"slices"
	"strings"

	"paperchase/api"
	"paperchase/intake"
	"paperchase/privilege"
	"paperchase/shape"
)

const maxSlip = 80 // bytes

// CheckSetup validates a setup.
func CheckSetup(s api.Setup) api.Errno {
	if e := checkSeries(s.Prefix, s.Digits); e != api.OK {
		return e
	}
	switch {
	case !isOrder(s.Order):
		return api.ErrKind
	case !isSlip(s.Slip) || !isSlip(s.Skip):
		return api.ErrForm
	case !isMany(s.Most):
		return api.ErrArg
	}
	return api.OK
}

func isOrder(order int) bool { return api.OrderId <= order && order <= api.OrderCustodian }

func isSlip(s string) bool { return s != "" && len(s) <= maxSlip && shape.Plain(s) }

// isMany says whether there can be at most so many pages.
func isMany(most int) bool { return 1 <= most && most <= api.MaxPages }

// plan is items, and what becomes of them.
type plan struct {
	families []api.Family
	items    map[string]api.Item
	rulings  map[string]api.Ruling // an item without one is left out
}

// planFor validates items and rulings.
func planFor(items []api.Item, l []api.Ruling) (plan, api.Errno) {
	families, e := intake.Families(items)
	if e != api.OK {
		return plan{}, e
	}
	p := plan{families, map[string]api.Item{}, map[string]api.Ruling{}}
	for _, x := range items {
		p.items[x.Id] = x
	}
	if len(l) > api.MaxItems {
		return plan{}, api.ErrLarge
	}
	last := ""
	for _, r := range l {
		if e := p.check(r, last); e != api.OK {
			return plan{}, e
		}
		p.rulings[r.Id] = r
		last = r.Id
	}
	return p, api.OK
}

// check validates a ruling that comes after the one of another item.
func (p plan) check(r api.Ruling, last string) api.Errno {
	x, ok := p.items[r.Id]
	switch {
	case !ok:
		return api.ErrNone
	case r.Id <= last:
		return api.ErrOrder
	case r.What < api.RuleShow || r.What > api.RuleLeave:
		return api.ErrKind
	case len(r.Spans) > 0 && r.What != api.RuleShow:
		return api.ErrForm
	}
	return privilege.CheckSpans(r.Spans, len(x.Text))
}

// CheckRulings validates rulings.
func CheckRulings(items []api.Item, l []api.Ruling) api.Errno {
	_, e := planFor(items, l)
	return e
}

// Chosen returns the families that are produced.
func Chosen(items []api.Item, l []api.Ruling, order int) ([]api.Family, api.Errno) {
	p, e := planFor(items, l)
	if e != api.OK {
		return nil, e
	}
	if !isOrder(order) {
		return nil, api.ErrKind
	}
	return p.chosen(order), api.OK
}

// chosen returns the families with something that is shown, in an order.
func (p plan) chosen(order int) []api.Family {
	var l []api.Family
	for _, f := range p.families {
		if slices.ContainsFunc(f.Items, func(id string) bool { return p.rulings[id].What == api.RuleShow }) {
			l = append(l, f)
		}
	}
	slices.SortFunc(l, p.comparer(order))
	return l
}

// comparer returns a function that compares two families for an order.
func (p plan) comparer(order int) func(f, g api.Family) int {
	return func(f, g api.Family) int {
		x, y := p.items[f.Top], p.items[g.Top]
		id := strings.Compare(x.Id, y.Id)
		at := cmp.Or(cmp.Compare(x.At, y.At), id)
		switch order {
		case api.OrderTime:
			return at
		case api.OrderCustodian:
			return cmp.Or(strings.Compare(x.Custodian, y.Custodian), at)
		}
		return id
	}
}
