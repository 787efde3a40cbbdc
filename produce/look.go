package produce

import (
	"slices"
	"strconv"

	"paperchase/api"
	"paperchase/shape"
)

const versionSign = "."

// numberOf writes a number of a production.
func numberOf(p api.Production, n int) string { return p.Prefix + padded(n, p.Digits) }

// finder returns a function that finds the page with a number in a right production: its Sheet, and which page of it that is, from 0 on.
func finder(number string) (func(p api.Production) (api.Sheet, int, bool), api.Errno) {
	prefix, digits, n, e := ReadNumber(number)
	if e != api.OK {
		return nil, e
	}
	return func(p api.Production) (api.Sheet, int, bool) {
		if p.Prefix != prefix || p.Digits != digits {
			return api.Sheet{}, 0, false
		}
		for _, s := range p.Sheets {
			if s.From <= n && n <= s.To {
				return s, n - s.From, true
			}
		}
		return api.Sheet{}, 0, false
	}, api.OK
}

// Sheet returns the lines of a page.
func Sheet(p api.Production, number string) ([]string, api.Errno) {
	if e := Check(p); e != api.OK {
		return nil, e
	}
	find, e := finder(number)
	if e != api.OK {
		return nil, e
	}
	s, page, ok := find(p)
	if !ok {
		return nil, api.ErrNone
	}
	if s.Version > 1 {
		number += versionSign + strconv.Itoa(s.Version)
	}
	return append(slices.Clone(s.Pages[page]), number), api.OK
}

// Find returns where a number is.
func Find(l []api.Production, number string) (no int, id string, page int, e api.Errno) {
	if e := CheckAll(l); e != api.OK {
		return 0, "", 0, e
	}
	find, e := finder(number)
	if e != api.OK {
		return 0, "", 0, e
	}
	for _, p := range l {
		if s, page, ok := find(p); ok {
			return p.No, s.Id, page + 1, api.OK
		}
	}
	return 0, "", 0, api.ErrNone
}

// placeOf validates productions and an id, and returns the numbers of the production and of the Sheet of an item.
func placeOf(l []api.Production, id string) (production, sheet int, e api.Errno) {
	if e := CheckAll(l); e != api.OK {
		return 0, 0, e
	}
	if !shape.Key(id) {
		return 0, 0, api.ErrName
	}
	for i, p := range l {
		if k := sheetOf(p, id); k >= 0 {
			return i, k, api.OK
		}
	}
	return 0, 0, api.ErrNone
}

// sheetOf returns the number of the Sheet of an item; -1 if there is none.
func sheetOf(p api.Production, id string) int {
	return slices.IndexFunc(p.Sheets, func(s api.Sheet) bool { return s.Id == id })
}

// Range returns the first and the last number of an item.
func Range(l []api.Production, id string) (from, to string, e api.Errno) {
	i, k, e := placeOf(l, id)
	if e != api.OK {
		return "", "", e
	}
	s := l[i].Sheets[k]
	return numberOf(l[i], s.From), numberOf(l[i], s.To), api.OK
}

// families returns the Sheets of a production, family by family.
func families(p api.Production) [][]api.Sheet {
	var l [][]api.Sheet
	for i, s := range p.Sheets {
		if i == 0 || s.Top != p.Sheets[i-1].Top {
			l = append(l, nil)
		}
		l[len(l)-1] = append(l[len(l)-1], s)
	}
	return l
}

func idsOf(l []api.Sheet) []string {
	var ids []string
	for _, s := range l {
		ids = append(ids, s.Id)
	}
	return ids
}

// Families returns the items of a production, family by family.
func Families(p api.Production) ([][]string, api.Errno) {
	if e := Check(p); e != api.OK {
		return nil, e
	}
	var l [][]string
	for _, family := range families(p) {
		l = append(l, idsOf(family))
	}
	return l, api.OK
}
