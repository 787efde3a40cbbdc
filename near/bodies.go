package near

import (
	"cmp"
	"slices"
	"strings"

	"paperchase/api"
	"paperchase/sets"
	"paperchase/shape"
)

// CheckBodies validates documents.
func CheckBodies(l []api.Body) api.Errno {
	if len(l) > api.MaxBodies {
		return api.ErrLarge
	}
	seen := map[string]bool{}
	size := 0
	for _, b := range l {
		switch {
		case !shape.Key(b.Id):
			return api.ErrName
		case seen[b.Id]:
			return api.ErrTwice
		case len(b.Text) > api.MaxBody:
			return api.ErrLarge
		}
		seen[b.Id] = true
		size += len(b.Text)
	}
	if size > api.MaxBodyBytes {
		return api.ErrLarge
	}
	return api.OK
}

// number validates documents, and returns the shingles of each one as numbers, which rise.
func number(l []api.Body, k, least int) ([][]int, api.Errno) {
	if e := CheckBodies(l); e != api.OK {
		return nil, e
	}
	if !isRun(k) || !isPercent(least) {
		return nil, api.ErrArg
	}
	n := sets.Numberer{}
	var numbers [][]int
	for _, b := range l {
		numbers = append(numbers, n.Numbers(shinglesOf(b.Text, k)))
	}
	return numbers, api.OK
}

// Pairs returns the pairs of documents that are alike.
func Pairs(l []api.Body, k, least int) ([]api.Pair, api.Errno) {
	numbers, e := number(l, k, least)
	if e != api.OK {
		return nil, e
	}
	var pairs []api.Pair
	for j, b := range l {
		for i, a := range l[:j] {
			like := resemblance(numbers[i], numbers[j])
			if atLeast(like, least) {
				pairs = append(pairs, api.Pair{A: min(a.Id, b.Id), B: max(a.Id, b.Id), Like: like})
			}
		}
	}
	slices.SortFunc(pairs, func(x, y api.Pair) int {
		return cmp.Or(compare(y.Like, x.Like), strings.Compare(x.A, y.A), strings.Compare(x.B, y.B))
	})
	return pairs, api.OK
}

// gather parts documents, of which the shingles are given as numbers, into groups; the pivot is the first of each.
func gather(l []api.Body, numbers [][]int, least int) [][]int {
	var rest []int
	for i := range l {
		rest = append(rest, i)
	}
	slices.SortFunc(rest, func(i, j int) int {
		return cmp.Or(len(numbers[j])-len(numbers[i]), strings.Compare(l[i].Id, l[j].Id))
	})
	var groups [][]int
	for len(rest) > 0 {
		pivot := numbers[rest[0]]
		var group, others []int
		for _, i := range rest {
			if atLeast(resemblance(pivot, numbers[i]), least) {
				group = append(group, i)
			} else {
				others = append(others, i)
			}
		}
		groups = append(groups, group)
		rest = others
	}
	return groups
}

// Groups parts documents into groups.
func Groups(l []api.Body, k, least int) ([]api.Cluster, api.Errno) {
	numbers, e := number(l, k, least)
	if e != api.OK {
		return nil, e
	}
	var clusters []api.Cluster
	for _, group := range gather(l, numbers, least) {
		c := api.Cluster{Pivot: l[group[0]].Id}
		for _, i := range group {
			c.Ids = append(c.Ids, l[i].Id)
		}
		slices.Sort(c.Ids)
		clusters = append(clusters, c)
	}
	return clusters, api.OK
}

// Pivot returns the pivot of the group of a document.
func Pivot(l []api.Body, k, least int, id string) (string, api.Fraction, api.Errno) {
	numbers, e := number(l, k, least)
	if e != api.OK {
		return "", api.Fraction{}, e
	}
	for _, group := range gather(l, numbers, least) {
		for _, i := range group {
			if l[i].Id == id {
				return l[group[0]].Id, resemblance(numbers[group[0]], numbers[i]), api.OK
			}
		}
	}
	return "", api.Fraction{}, api.ErrNone
}
