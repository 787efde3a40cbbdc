package produce

import (
	"slices"

	"paperchase/api"
)

const recalledLine = "recalled"

// copyOf returns a production in new memory.
func copyOf(p api.Production) api.Production {
	p.Sheets = slices.Clone(p.Sheets)
	for i := range p.Sheets {
		s := &p.Sheets[i]
		s.Pages = slices.Clone(s.Pages)
		for k, page := range s.Pages {
			s.Pages[k] = slices.Clone(page)
		}
	}
	return p
}

// Replace puts other pages in the place of an item's.
func Replace(p api.Production, id string, text string) (api.Production, api.Errno) {
	if e := Check(p); e != api.OK {
		return api.Production{}, e
	}
	at := sheetOf(p, id)
	if at < 0 {
		return api.Production{}, api.ErrNone
	}
	pages, e := Pages(text)
	if e != api.OK {
		return api.Production{}, e
	}
	p = copyOf(p)
	s := &p.Sheets[at]
	if len(pages) > many(*s) || s.Version == maxVersion {
		return api.Production{}, api.ErrFull
	}
	for len(pages) < many(*s) {
		pages = append(pages, nil)
	}
	s.Kind, s.Pages = api.SheetShown, pages
	s.Version++
	return p, api.OK
}

// Recall takes an item back that should not have been handed over.
func Recall(l []api.Production, id string) ([]api.Production, []string, api.Errno) {
	at, place, e := placeOf(l, id)
	if e != api.OK {
		return nil, nil, e
	}
	var all []api.Production
	for _, p := range l {
		all = append(all, copyOf(p))
	}
	p := all[at]
	top := p.Sheets[place].Top
	var numbers []string
	for i := range p.Sheets {
		s := &p.Sheets[i]
		if s.Id != id && (s.Top != top || s.Kind != api.SheetShown) {
			continue
		}
		if s.Version == maxVersion {
			return nil, nil, api.ErrFull
		}
		takeBack(s)
		for n := s.From; n <= s.To; n++ {
			numbers = append(numbers, numberOf(p, n))
		}
	}
	return all, numbers, api.OK
}

// takeBack leaves nothing of an item but its numbers.
func takeBack(s *api.Sheet) {
	for i := range s.Pages {
		s.Pages[i] = []string{recalledLine}
	}
	s.Kind = api.SheetBack
	s.Version++
}
