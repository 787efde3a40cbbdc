package produce

import (
	"slices"

	"paperchase/api"
	"paperchase/near"
)

// Volumes divides a production into volumes.
func Volumes(p api.Production, most int) ([][]string, api.Errno) {
	if e := Check(p); e != api.OK {
		return nil, e
	}
	if !isMany(most) {
		return nil, api.ErrArg
	}
	var volumes [][]string
	room := 0
	for _, family := range families(p) {
		pages := family[len(family)-1].To - family[0].From + 1
		if pages > room {
			volumes = append(volumes, nil)
			room = most
		}
		room -= pages
		last := len(volumes) - 1
		volumes[last] = append(volumes[last], idsOf(family)...)
	}
	return volumes, api.OK
}

// Gaps returns the numbers of a prefix that no page has.
func Gaps(l []api.Production, prefix string) ([]api.Window, api.Errno) {
	if e := CheckAll(l); e != api.OK {
		return nil, e
	}
	if !isPrefix(prefix) {
		return nil, api.ErrForm
	}
	same := slices.DeleteFunc(slices.Clone(l), func(p api.Production) bool { return p.Prefix != prefix })
	slices.SortFunc(same, func(p, q api.Production) int { return firstOf(p) - firstOf(q) })
	var gaps []api.Window
	next := 1
	for _, p := range same {
		if firstOf(p) > next {
			gaps = append(gaps, api.Window{From: next, To: firstOf(p)})
		}
		next = lastOf(p) + 1
	}
	return gaps, api.OK
}

// Unseen returns the items on whose pages words are still seen.
func Unseen(p api.Production, words []string) ([]string, api.Errno) {
	if e := Check(p); e != api.OK {
		return nil, e
	}
	if len(words) > api.MaxTerms {
		return nil, api.ErrLarge
	}
	hidden := map[string]bool{}
	for _, word := range words {
		if !slices.Equal(near.Words(word), []string{word}) {
			return nil, api.ErrForm
		}
		hidden[word] = true
	}
	var ids []string
	for _, s := range p.Sheets {
		if s.Kind == api.SheetShown && hasWord(s, func(word string) bool { return hidden[word] }) {
			ids = append(ids, s.Id)
		}
	}
	return ids, api.OK
}

// hasWord says whether a page of an item has a certain word.
func hasWord(s api.Sheet, certain func(word string) bool) bool {
	for _, page := range s.Pages {
		for _, line := range page {
			if slices.ContainsFunc(near.Words(line), certain) {
				return true
			}
		}
	}
	return false
}
