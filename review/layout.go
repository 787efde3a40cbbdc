// Package review has layouts, decisions, codings, second looks and batches.
package review

import (
	"paperchase/api"
	"paperchase/shape"
)

// field is an Ask with the places of its choices.
type field struct {
	api.Ask
	places map[string]int
}

// guide is a right layout, with the places of its fields.
type guide struct {
	fields []field
	places map[string]int
	rules  []api.Rule
}

// CheckLayout validates a layout.
func CheckLayout(l api.Layout) api.Errno {
	_, e := guideOf(l)
	return e
}

// guideOf validates a layout, and returns its guide.
func guideOf(l api.Layout) (guide, api.Errno) {
	g := guide{places: map[string]int{}, rules: l.Rules}
	if e := g.addAsks(l.Asks); e != api.OK {
		return guide{}, e
	}
	if len(l.Rules) > api.MaxRules {
		return guide{}, api.ErrLarge
	}
	for _, r := range l.Rules {
		if e := g.checkRule(r); e != api.OK {
			return guide{}, e
		}
	}
	return g, api.OK
}

func (g *guide) addAsks(l []api.Ask) api.Errno {
	if len(l) == 0 {
		return api.ErrForm
	}
	if len(l) > api.MaxAsks {
		return api.ErrLarge
	}
	for _, a := range l {
		if e := addKey(g.places, a.Field); e != api.OK {
			return e
		}
		f, e := fieldOf(a)
		if e != api.OK {
			return e
		}
		g.fields = append(g.fields, f)
	}
	return api.OK
}

// addKey gives the next place to a key.
func addKey(places map[string]int, key string) api.Errno {
	if !shape.Key(key) {
		return api.ErrName
	}
	if _, ok := places[key]; ok {
		return api.ErrTwice
	}
	places[key] = len(places)
	return api.OK
}

// fieldOf validates what an Ask has beside its Field.
func fieldOf(a api.Ask) (field, api.Errno) {
	if len(a.Choices) == 0 {
		return field{}, api.ErrForm
	}
	if len(a.Choices) > api.MaxChoices {
		return field{}, api.ErrLarge
	}
	places := map[string]int{}
	for _, choice := range a.Choices {
		if e := addKey(places, choice); e != api.OK {
			return field{}, e
		}
	}
	if spreadWord(a.Spread) == "" {
		return field{}, api.ErrKind
	}
	return field{a, places}, api.OK
}

func (g guide) checkRule(r api.Rule) api.Errno {
	switch {
	case ruleWord(r.Kind) == "":
		return api.ErrKind
	case !g.has(r.Field, r.If) || !g.hasField(r.Other) || r.Then != "" && !g.has(r.Other, r.Then):
		return api.ErrNone
	case r.Field == r.Other:
		return api.ErrLoop
	}
	return api.OK
}

func (g guide) hasField(name string) bool {
	_, ok := g.places[name]
	return ok
}

// has says whether there is a field, and it has a choice.
func (g guide) has(name, choice string) bool {
	if !g.hasField(name) {
		return false
	}
	_, ok := g.fields[g.places[name]].places[choice]
	return ok
}

// spreadWord returns the word of a Spread; empty if there is no such Spread.
func spreadWord(spread int) string {
	switch spread {
	case api.SpreadNone:
		return "none"
	case api.SpreadSame:
		return "same"
	case api.SpreadFamily:
		return "family"
	}
	return ""
}

// ruleWord returns the word of a kind of rules; empty if there is no such kind.
func ruleWord(kind int) string {
	switch kind {
	case api.RuleNeeds:
		return "needs"
	case api.RuleBars:
		return "bars"
	}
	return ""
}
