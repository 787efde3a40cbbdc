package review

import (
	"slices"

	"paperchase/api"
	"paperchase/intake"
)

// kin says among which items a value spreads: the group of each one, by Id, and all Ids in the order in which the first one of a group is looked for. Without Ids nothing spreads.
type kin struct {
	ids    []string
	groups map[string]string
}

func (k *kin) add(id, group string) {
	k.ids = append(k.ids, id)
	k.groups[id] = group
}

// sameKin are items with the same Sum.
func sameKin(items []api.Item) kin {
	k := kin{groups: map[string]string{}}
	for _, x := range items {
		sum, _ := intake.Sum(x)
		k.add(x.Id, sum)
	}
	return k
}

// familyKin are items of the same family.
func familyKin(families []api.Family) kin {
	k := kin{groups: map[string]string{}}
	for _, f := range families {
		for _, id := range f.Items {
			k.add(id, f.Top)
		}
	}
	return k
}

// counting returns a function that returns which choices of a field count for an item, where own are the values of items.
func (k kin) counting(own map[string][]api.Choice, name string) func(id string) []string {
	first := map[string][]string{} // by group
	for _, id := range k.ids {
		if group := k.groups[id]; len(first[group]) == 0 {
			first[group] = valueOf(own[id], name)
		}
	}
	return func(id string) []string {
		if value := valueOf(own[id], name); len(value) > 0 {
			return value
		}
		return first[k.groups[id]]
	}
}

// Spread works out what counts for items.
func Spread(l api.Layout, items []api.Item, c []api.Coding) ([]api.Coding, api.Errno) {
	g, e := guideOf(l)
	if e != api.OK {
		return nil, e
	}
	families, e := intake.Families(items)
	if e != api.OK {
		return nil, e
	}
	if e := g.checkCodings(c); e != api.OK {
		return nil, e
	}
	own := map[string][]api.Choice{}
	for _, x := range c {
		own[x.Item] = x.Values
	}
	kins := map[int]kin{api.SpreadSame: sameKin(items), api.SpreadFamily: familyKin(families)}
	var counts []func(id string) []string // by field
	for _, f := range g.fields {
		counts = append(counts, kins[f.Spread].counting(own, f.Field))
	}
	var all []api.Coding
	for _, x := range items {
		var v []api.Choice
		for i, f := range g.fields {
			if value := counts[i](x.Id); len(value) > 0 {
				v = append(v, api.Choice{Field: f.Field, Choices: slices.Clone(value)})
			}
		}
		if len(v) > 0 {
			all = append(all, api.Coding{Item: x.Id, Values: v})
		}
	}
	return all, api.OK
}
