package intake

import (
	"cmp"
	"slices"

	"paperchase/api"
	"paperchase/shape"
)

// likeness is what families that are the same have in common; Custodian is empty where it does not count.
type likeness struct{ Sum, Custodian string }

// Groups returns families that are the same.
func Groups(l []api.Item, ranks []string, each bool) ([]api.Group, api.Errno) {
	f, e := grow(l)
	if e != api.OK {
		return nil, e
	}
	if e := checkRanks(ranks); e != api.OK {
		return nil, e
	}
	sum := f.summer()
	alike := map[likeness][]int{}
	var seen []likeness // in the order of their first tops
	for _, top := range f.tops() {
		k := likeness{Sum: sum(top)}
		if each {
			k.Custodian = l[top].Custodian
		}
		if len(alike[k]) == 0 {
			seen = append(seen, k)
		}
		alike[k] = append(alike[k], top)
	}
	before := ranking(ranks)
	var groups []api.Group
	for _, k := range seen {
		if tops := alike[k]; len(tops) > 1 {
			groups = append(groups, f.group(k.Sum, tops, before))
		}
	}
	return groups, api.OK
}

func checkRanks(ranks []string) api.Errno {
	if len(ranks) > api.MaxPeople {
		return api.ErrLarge
	}
	seen := map[string]bool{}
	for _, r := range ranks {
		if !shape.Key(r) {
			return api.ErrName
		}
		if seen[r] {
			return api.ErrTwice
		}
		seen[r] = true
	}
	return api.OK
}

// ranking returns a function that compares tops: the least one is the Primary of a group.
func ranking(ranks []string) func(a, b api.Item) int {
	places := map[string]int{}
	for i, r := range ranks {
		places[r] = i
	}
	place := func(custodian string) int {
		if i, ok := places[custodian]; ok {
			return i
		}
		return len(ranks)
	}
	return func(a, b api.Item) int {
		return cmp.Or(cmp.Compare(place(a.Custodian), place(b.Custodian)), cmp.Compare(a.At, b.At), cmp.Compare(a.Id, b.Id))
	}
}

func (f forest) group(sum string, tops []int, before func(a, b api.Item) int) api.Group {
	g := api.Group{Sum: sum}
	first := f.items[tops[0]]
	for _, top := range tops {
		x := f.items[top]
		g.Tops = append(g.Tops, x.Id)
		if before(x, first) < 0 {
			first = x
		}
	}
	g.Primary = first.Id
	return g
}

// Holders returns the custodians of a family, and of those that are the same.
func Holders(l []api.Item, top string) ([]string, api.Errno) {
	own, e := FamilySum(l, top)
	if e != api.OK {
		return nil, e
	}
	f := plant(l)
	sum := f.summer()
	var people []string
	for _, top := range f.tops() {
		if sum(top) == own {
			people = append(people, l[top].Custodian)
		}
	}
	slices.Sort(people)
	return slices.Compact(people), api.OK
}
