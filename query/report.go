package query

import (
	"cmp"
	"slices"
	"strings"

	"paperchase/api"
	"paperchase/intake"
)

// Patterns returns the patterns of a search.
func Patterns(q api.Query) ([]string, api.Errno) {
	if e := Check(q); e != api.OK {
		return nil, e
	}
	return patternsOf(q), api.OK
}

func patternsOf(q api.Query) []string {
	var l []string
	if q.Kind == api.FindWord || q.Kind == api.FindPhrase {
		l = append(l, q.Words...)
	}
	for _, arg := range q.Args {
		l = append(l, patternsOf(arg)...)
	}
	slices.Sort(l)
	return slices.Compact(l)
}

// Report returns how much each of some searches finds.
func Report(some []api.Query, l []api.Item) ([]api.Term, api.Errno) {
	if len(some) > api.MaxList {
		return nil, api.ErrLarge
	}
	for _, q := range some {
		if e := Check(q); e != api.OK {
			return nil, e
		}
	}
	families, e := intake.Families(l)
	if e != api.OK {
		return nil, e
	}
	found := finders(some, l)
	terms := make([]api.Term, len(some))
	for _, which := range found {
		for _, i := range which {
			terms[i].Items++
		}
		if len(which) == 1 {
			terms[which[0]].Unique++
		}
	}
	for _, f := range families {
		for _, i := range findersOf(f, found) {
			terms[i].Whole += len(f.Items)
		}
	}
	return terms, api.OK
}

// finders returns for each Id the numbers of the searches that find the item.
func finders(some []api.Query, l []api.Item) map[string][]int {
	found := map[string][]int{}
	for _, x := range l {
		d, _ := documentOf(x)
		for i, q := range some {
			if d.matches(q) {
				found[x.Id] = append(found[x.Id], i)
			}
		}
	}
	return found
}

// findersOf returns the numbers of the searches that find an item of a family, each once.
func findersOf(f api.Family, found map[string][]int) []int {
	var l []int
	for _, id := range f.Items {
		l = append(l, found[id]...)
	}
	slices.Sort(l)
	return slices.Compact(l)
}

// Expand returns the words of items that a pattern fits.
func Expand(pattern string, l []api.Item) ([]api.Count, api.Errno) {
	if !IsPattern(pattern) {
		return nil, api.ErrName
	}
	if e := intake.Check(l); e != api.OK {
		return nil, e
	}
	many := map[string]int{}
	for _, x := range l {
		here := map[string]bool{}
		for _, w := range Words(x.Text) {
			if !here[w.Word] && fits(pattern, w.Word) {
				here[w.Word] = true
				many[w.Word]++
			}
		}
	}
	return ranked(many), api.OK
}

// ranked returns words in the order of how many items have them.
func ranked(many map[string]int) []api.Count {
	var l []api.Count
	for word, n := range many {
		l = append(l, api.Count{Word: word, Many: n})
	}
	slices.SortFunc(l, func(a, b api.Count) int {
		return cmp.Or(cmp.Compare(b.Many, a.Many), strings.Compare(a.Word, b.Word))
	})
	return l
}
