package review

import (
	"maps"
	"slices"

	"paperchase/api"
	"paperchase/shape"
)

// CodingOf returns the coding of an item at a moment.
func CodingOf(l api.Layout, d []api.Decision, item string, at int) (api.Coding, api.Errno) {
	_, all, e := entriesOf(l, d)
	if e != api.OK {
		return api.Coding{}, e
	}
	if !shape.Key(item) {
		return api.Coding{}, api.ErrName
	}
	if !shape.Moment(at) {
		return api.Coding{}, api.ErrArg
	}
	last := latest(all, func(x entry) bool { return x.Item == item && x.At <= at })
	return codingOf(item, last[item].Values), api.OK
}

// codingOf returns a coding with a copy of values.
func codingOf(item string, v []api.Choice) api.Coding {
	return api.Coding{Item: item, Values: copyValues(v)}
}

// Codings returns the codings of all items at a moment.
func Codings(l api.Layout, d []api.Decision, at int) ([]api.Coding, api.Errno) {
	_, all, e := entriesAt(l, d, at)
	if e != api.OK {
		return nil, e
	}
	last := latest(all, func(x entry) bool { return x.At <= at })
	var c []api.Coding
	for _, item := range slices.Sorted(maps.Keys(last)) {
		c = append(c, codingOf(item, last[item].Values))
	}
	return c, api.OK
}

// checkCodings validates codings that are handed to a function.
func (g guide) checkCodings(c []api.Coding) api.Errno {
	if len(c) > api.MaxItems {
		return api.ErrLarge
	}
	for i, x := range c {
		if !shape.Key(x.Item) {
			return api.ErrName
		}
		if i > 0 && x.Item <= c[i-1].Item {
			return api.ErrOrder
		}
		if _, e := g.rankOf(x.Values); e != api.OK {
			return e
		}
	}
	return api.OK
}

// guideFor validates a layout and codings, and returns the guide.
func guideFor(l api.Layout, c []api.Coding) (guide, api.Errno) {
	g, e := guideOf(l)
	if e != api.OK {
		return guide{}, e
	}
	if e := g.checkCodings(c); e != api.OK {
		return guide{}, e
	}
	return g, api.OK
}

// Having returns the items that have a choice of a field.
func Having(l api.Layout, c []api.Coding, field, choice string) ([]string, api.Errno) {
	g, e := guideFor(l, c)
	if e != api.OK {
		return nil, e
	}
	if !g.has(field, choice) {
		return nil, api.ErrNone
	}
	var items []string
	for _, x := range c {
		if slices.Contains(valueOf(x.Values, field), choice) {
			items = append(items, x.Item)
		}
	}
	return items, api.OK
}

// Tally returns how many codings have each choice of a field, and none.
func Tally(l api.Layout, c []api.Coding, field string) ([]int, api.Errno) {
	g, e := guideFor(l, c)
	if e != api.OK {
		return nil, e
	}
	if !g.hasField(field) {
		return nil, api.ErrNone
	}
	places := g.fields[g.places[field]].places
	none := len(places)
	many := make([]int, none+1)
	for _, x := range c {
		value := valueOf(x.Values, field)
		for _, choice := range value {
			many[places[choice]]++
		}
		if len(value) == 0 {
			many[none]++
		}
	}
	return many, api.OK
}
