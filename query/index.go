package query

import (
	"slices"

	"paperchase/api"
	"paperchase/intake"
)

// Index answers searches for the items that are in it.
type Index struct {
	items map[string]entry            // by Id
	words map[string]map[string][]int // for each word, for each Id of an item that has it, which words of its Text are this one
}

// entry is an item and how many words its Text has.
type entry struct {
	item api.Item
	long int
}

// New returns an empty index.
func New() *Index {
	return &Index{items: map[string]entry{}, words: map[string]map[string][]int{}}
}

// Add adds an item.
func (x *Index) Add(i api.Item) api.Errno {
	if e := intake.CheckItem(i); e != api.OK {
		return e
	}
	if _, there := x.items[i.Id]; there {
		return api.ErrTwice
	}
	if len(x.items) == api.MaxItems {
		return api.ErrFull
	}
	words := Words(i.Text)
	x.items[i.Id] = entry{i, len(words)}
	for at, w := range words {
		if x.words[w.Word] == nil {
			x.words[w.Word] = map[string][]int{}
		}
		x.words[w.Word][i.Id] = append(x.words[w.Word][i.Id], at)
	}
	return api.OK
}

// Remove takes an item away.
func (x *Index) Remove(id string) api.Errno {
	e, there := x.items[id]
	if !there {
		return api.ErrNone
	}
	delete(x.items, id)
	for _, w := range Words(e.item.Text) {
		delete(x.words[w.Word], id)
		if len(x.words[w.Word]) == 0 {
			delete(x.words, w.Word)
		}
	}
	return api.OK
}

// Size returns the number of items, and of different words.
func (x *Index) Size() (int, int) { return len(x.items), len(x.words) }

// Search returns the items that a search finds.
func (x *Index) Search(q api.Query) ([]string, api.Errno) {
	if e := Check(q); e != api.OK {
		return nil, e
	}
	spots := map[string]map[string][]int{}
	for _, pattern := range patternsOf(q) {
		spots[pattern] = x.spots(pattern)
	}
	var ids []string
	for id, e := range x.items {
		d := document{e.item, e.long, func(pattern string) []int { return spots[pattern][id] }}
		if d.matches(q) {
			ids = append(ids, id)
		}
	}
	slices.Sort(ids)
	return ids, api.OK
}

// spots returns for the Ids of items which words of their Texts a pattern fits.
func (x *Index) spots(pattern string) map[string][]int {
	all := map[string][]int{}
	for _, word := range x.fitting(pattern) {
		for id, numbers := range x.words[word] {
			all[id] = append(all[id], numbers...)
		}
	}
	for _, numbers := range all {
		slices.Sort(numbers)
	}
	return all
}

// fitting returns the words that a pattern fits, in any order.
func (x *Index) fitting(pattern string) []string {
	var l []string
	for word := range x.words {
		if fits(pattern, word) {
			l = append(l, word)
		}
	}
	return l
}

// Expand returns the words that a pattern fits.
func (x *Index) Expand(pattern string) ([]api.Count, api.Errno) {
	if !IsPattern(pattern) {
		return nil, api.ErrName
	}
	many := map[string]int{}
	for _, word := range x.fitting(pattern) {
		many[word] = len(x.words[word])
	}
	return ranked(many), api.OK
}
