package query

import (
	"slices"

	"paperchase/api"
	"paperchase/intake"
)

// document is an item as searches see it.
type document struct {
	item  api.Item
	long  int                        // words of its Text
	spots func(pattern string) []int // the numbers of the words of its Text that a pattern fits, rising
}

// documentOf returns an item as searches see it, and the words of its Text.
func documentOf(x api.Item) (document, []api.Word) {
	words := Words(x.Text)
	spots := func(pattern string) []int {
		var l []int
		for i, w := range words {
			if fits(pattern, w.Word) {
				l = append(l, i)
			}
		}
		return l
	}
	return document{x, len(words), spots}, words
}

// starts returns the numbers of the words from which on patterns fit words one after the other.
func (d document) starts(patterns []string) []int {
	l := d.spots(patterns[0])
	for k, pattern := range patterns[1:] {
		next := d.spots(pattern)
		var longer []int
		for _, i := range l {
			if _, ok := slices.BinarySearch(next, i+k+1); ok {
				longer = append(longer, i)
			}
		}
		l = longer
	}
	return l
}

// matches says whether a search finds an item.
func (d document) matches(q api.Query) bool {
	switch q.Kind {
	case api.FindWord, api.FindPhrase:
		return len(d.starts(q.Words)) > 0
	case api.FindNear, api.FindPre:
		// Most items lack one of both; to know this first is cheaper than to locate.
		return d.matches(q.Args[0]) && d.matches(q.Args[1]) && !d.locate(q).at.isEmpty()
	case api.FindAnd:
		return !slices.ContainsFunc(q.Args, func(arg api.Query) bool { return !d.matches(arg) })
	case api.FindOr:
		return slices.ContainsFunc(q.Args, d.matches)
	case api.FindNot:
		return !d.matches(q.Args[0])
	case api.FindOwner:
		return d.item.Custodian == q.Words[0]
	case api.FindKind:
		return d.item.Kind == q.Number
	case api.FindName:
		return hasFitting(q.Words[0], d.item.Name)
	case api.FindFrom:
		return d.item.At/api.DayLong >= q.Number
	case api.FindUntil:
		return d.item.At/api.DayLong <= q.Number
	}
	return true // FindAll
}

// checkBoth validates a search and an item.
func checkBoth(q api.Query, x api.Item) api.Errno {
	if e := Check(q); e != api.OK {
		return e
	}
	return intake.CheckItem(x)
}

// Matches says whether a search finds an item.
func Matches(q api.Query, x api.Item) (bool, api.Errno) {
	if e := checkBoth(q, x); e != api.OK {
		return false, e
	}
	d, _ := documentOf(x)
	return d.matches(q), api.OK
}

// Search returns the items of a list that a search finds.
func Search(q api.Query, l []api.Item) ([]string, api.Errno) {
	if e := Check(q); e != api.OK {
		return nil, e
	}
	if e := intake.Check(l); e != api.OK {
		return nil, e
	}
	var ids []string
	for _, x := range l {
		if d, _ := documentOf(x); d.matches(q) {
			ids = append(ids, x.Id)
		}
	}
	return ids, api.OK
}
