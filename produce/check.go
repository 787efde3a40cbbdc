package produce

import (
	"slices"

	"paperchase/api"
	"paperchase/shape"
)

const maxVersion = 1_000

// kindWord returns the word of a kind of Sheets; empty if there is no such kind.
func kindWord(kind int) string {
	switch kind {
	case api.SheetShown:
		return "shown"
	case api.SheetHeld:
		return "held"
	case api.SheetLeft:
		return "left"
	case api.SheetBack:
		return "back"
	}
	return ""
}

// Check validates a production.
func Check(p api.Production) api.Errno {
	if p.No < 1 || p.No > api.MaxProductions {
		return api.ErrArg
	}
	if e := checkSeries(p.Prefix, p.Digits); e != api.OK {
		return e
	}
	if len(p.Sheets) == 0 {
		return api.ErrNone
	}
	if len(p.Sheets) > api.MaxItems {
		return api.ErrLarge
	}
	seen := map[string]bool{}
	top := ""
	for i, s := range p.Sheets {
		if e := checkPlace(s, seen, top); e != api.OK {
			return e
		}
		seen[s.Id] = true
		top = s.Top
		before := s.From - 1
		if i > 0 {
			before = p.Sheets[i-1].To
		}
		if e := checkSheet(s, before, greatest(p.Digits)); e != api.OK {
			return e
		}
	}
	return api.OK
}

// checkPlace validates the names of a Sheet after others, of which the last one has a Top.
func checkPlace(s api.Sheet, seen map[string]bool, top string) api.Errno {
	switch {
	case !shape.Key(s.Id) || !shape.Key(s.Top):
		return api.ErrName
	case seen[s.Id]:
		return api.ErrTwice
	case s.Top != top && s.Top != s.Id:
		return api.ErrOrder
	}
	// A family that began earlier has had its top, so that its Id was seen.
	return api.OK
}

// checkSheet validates the rest of a Sheet that comes after a number.
func checkSheet(s api.Sheet, before, most int) api.Errno {
	switch {
	case kindWord(s.Kind) == "":
		return api.ErrKind
	case s.Version < 1 || s.Version > maxVersion:
		return api.ErrArg
	case s.From < 1 || s.From > s.To || s.To > most || s.From-1 != before:
		return api.ErrArg
	case len(s.Pages) != many(s) || slices.ContainsFunc(s.Pages, isNoPage):
		return api.ErrForm
	case (s.Kind == api.SheetHeld || s.Kind == api.SheetLeft) && (len(s.Pages) != 1 || len(s.Pages[0]) != 1):
		return api.ErrForm
	}
	return api.OK
}

func isNoPage(page []string) bool {
	return len(page) > api.PageLong || slices.ContainsFunc(page, func(line string) bool {
		return len(line) > api.PageWide || !shape.Line(line)
	})
}

// many returns how many pages an item has.
func many(s api.Sheet) int { return s.To - s.From + 1 }

// firstOf returns the least number of a production.
func firstOf(p api.Production) int { return p.Sheets[0].From }

// lastOf returns the greatest number of a production.
func lastOf(p api.Production) int { return p.Sheets[len(p.Sheets)-1].To }

// CheckAll validates productions.
func CheckAll(l []api.Production) api.Errno {
	if len(l) > api.MaxProductions {
		return api.ErrLarge
	}
	known := map[string]bool{}
	for i, p := range l {
		if e := Check(p); e != api.OK {
			return e
		}
		if p.No != i+1 {
			return api.ErrOrder
		}
		for _, s := range p.Sheets {
			if known[s.Id] {
				return api.ErrTwice
			}
			if slices.ContainsFunc(l[:i], func(q api.Production) bool { return q.Prefix == p.Prefix && overlaps(q, s) }) {
				return api.ErrConflict
			}
		}
		for _, s := range p.Sheets {
			known[s.Id] = true
		}
	}
	return api.OK
}

// overlaps says whether a production has one of the numbers of a Sheet.
func overlaps(p api.Production, s api.Sheet) bool {
	return firstOf(p) <= s.To && s.From <= lastOf(p)
}
