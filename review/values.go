package review

import (
	"slices"

	"paperchase/api"
)

// CheckValues validates values.
func CheckValues(l api.Layout, v []api.Choice) api.Errno {
	g, e := guideOf(l)
	if e != api.OK {
		return e
	}
	_, e = g.rankOf(v)
	return e
}

// rankOf validates values, and returns their rank: of two values the greater ones (P6.3) have the greater rank.
func (g guide) rankOf(v []api.Choice) (string, api.Errno) {
	if len(v) > api.MaxAsks {
		return "", api.ErrLarge
	}
	var rank []byte
	last := -1
	for _, c := range v {
		place, e := placeAfter(g.places, c.Field, last)
		if e != api.OK {
			return "", e
		}
		rank = append(rank, rankByte(place))
		rank, e = g.fields[place].addRank(rank, c.Choices)
		if e != api.OK {
			return "", e
		}
		// The end is less than every place, as a list is less than one that goes on.
		rank = append(rank, 0)
		last = place
	}
	return string(rank), api.OK
}

// addRank validates choices of a field, and adds their places to a rank.
func (f field) addRank(rank []byte, choices []string) ([]byte, api.Errno) {
	if len(choices) == 0 {
		return nil, api.ErrForm
	}
	if len(choices) > 1 && !f.Many {
		return nil, api.ErrRule
	}
	last := -1
	for _, choice := range choices {
		place, e := placeAfter(f.places, choice, last)
		if e != api.OK {
			return nil, e
		}
		rank = append(rank, rankByte(place))
		last = place
	}
	return rank, api.OK
}

func rankByte(place int) byte { return byte(place) + 1 }

// placeAfter returns the place of a name that has to come after another place.
func placeAfter(places map[string]int, name string, before int) (int, api.Errno) {
	place, ok := places[name]
	if !ok {
		return 0, api.ErrNone
	}
	if place <= before {
		return 0, api.ErrOrder
	}
	return place, api.OK
}

// valueOf returns the choices of a field; none if it has no value.
func valueOf(v []api.Choice, name string) []string {
	for _, c := range v {
		if c.Field == name {
			return c.Choices
		}
	}
	return nil
}

// Broken returns the rules that values break.
func Broken(l api.Layout, v []api.Choice) ([]int, api.Errno) {
	g, e := guideOf(l)
	if e != api.OK {
		return nil, e
	}
	if _, e := g.rankOf(v); e != api.OK {
		return nil, e
	}
	var broken []int
	for i, r := range g.rules {
		if isBroken(r, v) {
			broken = append(broken, i)
		}
	}
	return broken, api.OK
}

// isBroken says whether right values break a rule.
func isBroken(r api.Rule, v []api.Choice) bool {
	if !slices.Contains(valueOf(v, r.Field), r.If) {
		return false
	}
	value := valueOf(v, r.Other)
	has := len(value) > 0
	if r.Then != "" {
		has = slices.Contains(value, r.Then)
	}
	return has == (r.Kind == api.RuleBars)
}

// copyValues returns values in new memory.
func copyValues(v []api.Choice) []api.Choice {
	l := slices.Clone(v)
	for i, c := range l {
		l[i].Choices = slices.Clone(c.Choices)
	}
	return l
}
