package produce

import (
	"paperchase/api"
	"paperchase/privilege"
)

// Make makes a production.
func Make(items []api.Item, l []api.Ruling, s api.Setup, past []api.Production) (api.Production, api.Errno) {
	p, e := planFor(items, l)
	if e != api.OK {
		return api.Production{}, e
	}
	if e := CheckSetup(s); e != api.OK {
		return api.Production{}, e
	}
	if e := CheckAll(past); e != api.OK {
		return api.Production{}, e
	}
	if len(past) == api.MaxProductions {
		return api.Production{}, api.ErrFull
	}
	families := p.chosen(s.Order)
	if e := checkNew(families, past); e != api.OK {
		return api.Production{}, e
	}
	sheets, e := p.sheets(families, s, lastNumber(past, s.Prefix))
	if e != api.OK {
		return api.Production{}, e
	}
	return api.Production{No: len(past) + 1, Prefix: s.Prefix, Digits: s.Digits, Sheets: sheets}, api.OK
}

// checkNew checks that there are families, and that none of their items has been handed over.
func checkNew(families []api.Family, past []api.Production) api.Errno {
	known := map[string]bool{}
	for _, p := range past {
		for _, s := range p.Sheets {
			known[s.Id] = true
		}
	}
	for _, f := range families {
		for _, id := range f.Items {
			if known[id] {
				return api.ErrTwice
			}
		}
	}
	if len(families) == 0 {
		return api.ErrNone
	}
	return api.OK
}

// lastNumber returns the greatest number of a prefix; 0 if there is none.
func lastNumber(l []api.Production, prefix string) int {
	last := 0
	for _, p := range l {
		if p.Prefix == prefix {
			last = max(last, lastOf(p))
		}
	}
	return last
}

// sheets makes the Sheets of families, with the numbers after another one.
func (p plan) sheets(families []api.Family, s api.Setup, last int) ([]api.Sheet, api.Errno) {
	most := last + s.Most
	var l []api.Sheet
	for _, f := range families {
		for _, id := range f.Items {
			kind, pages := p.shown(id, s)
			l = append(l, api.Sheet{Id: id, Top: f.Top, Kind: kind, From: last + 1, To: last + len(pages), Pages: pages, Version: 1})
			last += len(pages)
			// Asked for at once, so that not much more than this is made.
			if last > most {
				return nil, api.ErrLarge
			}
		}
	}
	if last > greatest(s.Digits) {
		return nil, api.ErrFull
	}
	return l, api.OK
}

// shown returns what others get of an item: the kind of its Sheet, and its pages.
func (p plan) shown(id string, s api.Setup) (int, [][]string) {
	r := p.rulings[id]
	switch r.What {
	case api.RuleShow:
		text, _ := privilege.Redact(p.items[id].Text, r.Spans) // both are checked
		return api.SheetShown, pagesOf(text)
	case api.RuleHold:
		return api.SheetHeld, [][]string{{s.Slip}}
	}
	return api.SheetLeft, [][]string{{s.Skip}}
}
