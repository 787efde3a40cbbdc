package intake

import (
	"slices"
	"strings"

	"paperchase/api"
)

// Families returns all families.
func Families(l []api.Item) ([]api.Family, api.Errno) {
	f, e := grow(l)
	if e != api.OK {
		return nil, e
	}
	familyOf := f.familyMaker()
	var all []api.Family
	for _, top := range f.tops() {
		all = append(all, familyOf(top))
	}
	return all, api.OK
}

// familyMaker returns a function that returns the family of a top.
func (f forest) familyMaker() func(top int) api.Family {
	kids := f.children()
	return func(top int) api.Family {
		var ids []string
		var visit func(i int)
		visit = func(i int) {
			ids = append(ids, f.items[i].Id)
			for _, kid := range kids[i] {
				visit(kid)
			}
		}
		visit(top)
		return api.Family{Top: f.items[top].Id, Items: ids}
	}
}

// growWith is grow for functions that also take the Id of an item, whose number it returns.
func growWith(l []api.Item, id string) (forest, int, api.Errno) {
	f, e := grow(l)
	if e != api.OK {
		return forest{}, 0, e
	}
	i := f.number(id)
	if i == nowhere {
		return forest{}, 0, api.ErrNone
	}
	return f, i, api.OK
}

// FamilyOf returns the family of an item.
func FamilyOf(l []api.Item, id string) (api.Family, api.Errno) {
	f, i, e := growWith(l, id)
	if e != api.OK {
		return api.Family{}, e
	}
	return f.familyMaker()(f.top(i)), api.OK
}

// Children returns the children of an item.
func Children(l []api.Item, id string) ([]string, api.Errno) {
	f, i, e := growWith(l, id)
	if e != api.OK {
		return nil, e
	}
	var ids []string
	for _, kid := range f.children()[i] {
		ids = append(ids, l[kid].Id)
	}
	return ids, api.OK
}

// Depth returns how many items are above an item.
func Depth(l []api.Item, id string) (int, api.Errno) {
	f, i, e := growWith(l, id)
	if e != api.OK {
		return 0, e
	}
	return f.above(i), api.OK
}

// FamilySum returns the sum of a family.
func FamilySum(l []api.Item, top string) (string, api.Errno) {
	f, i, e := growWith(l, top)
	if e != api.OK {
		return "", e
	}
	if f.up[i] != nowhere {
		return "", api.ErrRule
	}
	return f.summer()(i), api.OK
}

// summer returns a function that returns the family sum of an item with what is below it.
func (f forest) summer() func(i int) string {
	kids := f.children()
	var sum func(i int) string
	sum = func(i int) string {
		var below []string
		for _, kid := range kids[i] {
			below = append(below, sum(kid))
		}
		slices.Sort(below)
		return Digest(strings.Join(slices.Insert(below, 0, sumOf(f.items[i])), " "))
	}
	return sum
}

// Whole returns the items of families that have one of some items.
func Whole(l []api.Item, ids []string) ([]string, api.Errno) {
	f, e := grow(l)
	if e != api.OK {
		return nil, e
	}
	wanted := map[int]bool{}
	for _, id := range ids {
		i := f.number(id)
		if i == nowhere {
			return nil, api.ErrNone
		}
		wanted[f.top(i)] = true
	}
	familyOf := f.familyMaker()
	var all []string
	for _, top := range f.tops() {
		if wanted[top] {
			all = append(all, familyOf(top).Items...)
		}
	}
	return all, api.OK
}
