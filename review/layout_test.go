package review_test

import (
	"math"
	"strings"
	"testing"

	"paperchase/api"
	"paperchase/review"
)

// P6.1
func TestCheckLayout(t *testing.T) {
	small := api.Layout{Asks: []api.Ask{ask("a", "a")}}
	for _, l := range []api.Layout{
		small, example(), free(), wide(),
		{Asks: []api.Ask{spread(ask("a", "a b"), api.SpreadNone), spread(ask("b", "a b"), api.SpreadSame), spread(ask("c", "c"), api.SpreadFamily)}},
		{Asks: example().Asks, Rules: []api.Rule{needs("resp", "yes", "why", "hr"), needs("resp", "yes", "why", "hr"), bars("why", "deal", "resp", ""), bars("why", "hr", "resp", "no")}},
	} {
		is(t, review.CheckLayout(l), api.OK)
	}
	eachBadLayout(t, func(l api.Layout) (api.Errno, []any) { return review.CheckLayout(l), nil })
	for _, c := range []struct {
		e   api.Errno
		ask api.Ask
	}{
		{api.ErrName, ask("", "yes")},
		{api.ErrName, ask("9a", "yes")},
		{api.ErrName, ask("a b", "yes")},
		{api.ErrName, ask("a=b", "yes")},
		{api.ErrName, ask(strings.Repeat("k", api.MaxName+1), "yes")},
		{api.ErrTwice, ask("resp", "yes")},
		{api.ErrTwice, ask("why", "yes")},
		{api.ErrForm, ask("x", "")},
		{api.ErrLarge, api.Ask{Field: "x", Choices: names("c", api.MaxChoices+1)}},
		{api.ErrName, ask("x", "yes No")},
		{api.ErrName, ask("x", "yes n,o")},
		{api.ErrName, api.Ask{Field: "x", Choices: []string{""}}},
		{api.ErrTwice, ask("x", "a b c b")},
		{api.ErrKind, spread(ask("x", "yes"), -1)},
		{api.ErrKind, spread(ask("x", "yes"), 3)},
		{api.ErrKind, spread(ask("x", "yes"), math.MaxInt)},
		{api.ErrKind, spread(ask("x", "yes"), math.MinInt)},
	} {
		l := example()
		l.Asks = append(l.Asks, c.ask)
		is(t, review.CheckLayout(l), c.e)
	}
}

// P6.1
func TestCheckRules(t *testing.T) {
	for _, c := range []struct {
		e    api.Errno
		rule api.Rule
	}{
		{api.ErrKind, api.Rule{Kind: 0, Field: "resp", If: "yes", Other: "why"}},
		{api.ErrKind, api.Rule{Kind: 3, Field: "resp", If: "yes", Other: "why"}},
		{api.ErrKind, api.Rule{Kind: math.MinInt, Field: "resp", If: "yes", Other: "why"}},
		{api.ErrNone, needs("", "yes", "why", "")},
		{api.ErrNone, needs("what", "yes", "why", "")},
		{api.ErrNone, needs("resp", "", "why", "")},
		{api.ErrNone, needs("resp", "hr", "why", "")},
		{api.ErrNone, bars("resp", "resp", "why", "")},
		{api.ErrNone, bars("resp", "yes", "", "")},
		{api.ErrNone, bars("resp", "yes", "yes", "")},
		{api.ErrNone, bars("resp", "yes", "why", "yes")},
		{api.ErrNone, bars("resp", "yes", "", "yes")},
		{api.ErrNone, needs("resp", "yes", "resp", "hr")},
		{api.ErrLoop, needs("resp", "yes", "resp", "")},
		{api.ErrLoop, bars("why", "hr", "why", "deal")},
	} {
		l := example()
		l.Rules = append(l.Rules, c.rule)
		is(t, review.CheckLayout(l), c.e)
	}
	l := wide()
	l.Rules = append(l.Rules, api.Rule{})
	is(t, review.CheckLayout(l), api.ErrLarge)
}

// P6.1: of several errors the first one of the list, ask by ask, and then rule by rule.
func TestCheckLayoutOrder(t *testing.T) {
	bad := api.Ask{Field: "A", Spread: 9}
	rules := make([]api.Rule, api.MaxRules+1)
	r := &rules[0]
	r.Field, r.Other = "x", "x"
	asks := 0
	for _, s := range []step{
		{api.ErrForm, func() {}},
		{api.ErrLarge, func() { asks = api.MaxAsks + 1 }},
		{api.ErrName, func() { asks = 3 }},
		{api.ErrTwice, func() { bad.Field = "resp" }},
		{api.ErrForm, func() { bad.Field = "b" }},
		{api.ErrLarge, func() { bad.Choices = make([]string, api.MaxChoices+1) }},
		{api.ErrName, func() { bad.Choices = words("a A a") }},
		{api.ErrTwice, func() { bad.Choices = words("a b a C") }},
		{api.ErrName, func() { bad.Choices = words("a b C a") }},
		{api.ErrKind, func() { bad.Choices = words("a b") }},
		{api.ErrName, func() { bad.Spread = 1 }}, // the third ask
		{api.ErrLarge, func() { asks = 2 }},
		{api.ErrKind, func() { rules = rules[:2] }},
		{api.ErrNone, func() { r.Kind = 2 }},
		{api.ErrNone, func() { r.Field, r.If = "b", "c" }},
		{api.ErrNone, func() { r.If = "a" }},
		{api.ErrNone, func() { r.Other, r.Then = "b", "c" }},
		{api.ErrLoop, func() { r.Then = "b" }},
		{api.ErrKind, func() { r.Other, r.Then = "resp", "no" }}, // the second rule
		{api.OK, func() { rules = rules[:1] }},
	} {
		s.mend()
		l := api.Layout{Rules: rules}
		if asks > 0 {
			l.Asks = append([]api.Ask{ask("resp", "yes no"), bad}, make([]api.Ask, asks-2)...)
		}
		is(t, review.CheckLayout(l), s.e)
	}
}

// Z2
func TestCheckLayoutKeeps(t *testing.T) {
	keepsLayout(t, func(l api.Layout) { is(t, review.CheckLayout(l), api.OK) })
}
