package review_test

import (
	"math"
	"math/rand/v2"
	"reflect"
	"slices"
	"strconv"
	"strings"
	"testing"

	"paperchase/api"
	"paperchase/intake"
)

// is compares values; an empty and a nil list are the same (Z5).
func is(t *testing.T, got, want any) {
	t.Helper()
	if !reflect.DeepEqual(got, want) && !(isEmptyList(got) && isEmptyList(want)) {
		t.Errorf("got %+v, want %+v", got, want)
	}
}

func isEmptyList(x any) bool {
	v := reflect.ValueOf(x)
	return v.Kind() == reflect.Slice && v.Len() == 0
}

// gives checks a result that comes without an error.
func gives(t *testing.T, got any, e api.Errno, want any) {
	t.Helper()
	is(t, e, api.OK)
	is(t, got, want)
}

// fails checks an error, and that all other results are zero values (Z3).
func fails(t *testing.T, e, want api.Errno, results ...any) {
	t.Helper()
	if e != want {
		t.Errorf("got error %d, want %d", e, want)
	}
	for _, r := range results {
		if !isEmptyList(r) && !reflect.ValueOf(r).IsZero() {
			t.Errorf("with error %d got %+v", e, r)
		}
	}
}

func words(s string) []string { return strings.Fields(s) }

// name makes keys that are in order.
func name(start string, i int) string { return start + strconv.Itoa(1_000_000 + i)[1:] }

// names makes many keys that are in order.
func names(start string, many int) []string {
	var l []string
	for i := range many {
		l = append(l, name(start, i))
	}
	return l
}

// step changes a value so that its next error is another one.
type step struct {
	e    api.Errno
	mend func()
}

// badMoments are no moments.
func badMoments() []int { return []int{-1, api.End, math.MinInt, math.MaxInt} }

// Layouts.

func ask(field, choices string) api.Ask { return api.Ask{Field: field, Choices: words(choices)} }

func many(a api.Ask) api.Ask {
	a.Many = true
	return a
}

func spread(a api.Ask, how int) api.Ask {
	a.Spread = how
	return a
}

func needs(field, choice, other, then string) api.Rule {
	return api.Rule{Kind: api.RuleNeeds, Field: field, If: choice, Other: other, Then: then}
}

func bars(field, choice, other, then string) api.Rule {
	r := needs(field, choice, other, then)
	r.Kind = api.RuleBars
	return r
}

// example is the layout of the document's example.
func example() api.Layout {
	return api.Layout{Asks: []api.Ask{ask("resp", "yes no"), many(ask("why", "deal hr"))}, Rules: []api.Rule{needs("resp", "yes", "why", "")}}
}

// free is a layout without rules, whose names are not in the order of strings.
func free() api.Layout {
	return api.Layout{Asks: []api.Ask{spread(ask("resp", "yes no"), api.SpreadSame), spread(many(ask("iss", "z a m")), api.SpreadFamily), ask("hot", "hot cold")}}
}

// wide is the layout with the most that there can be.
func wide() api.Layout {
	long := strings.Repeat("k", api.MaxName-7)
	var l api.Layout
	for _, field := range names(long+"f", api.MaxAsks) {
		l.Asks = append(l.Asks, api.Ask{Field: field, Choices: names(long+"c", api.MaxChoices), Many: true, Spread: api.SpreadFamily})
	}
	for range api.MaxRules {
		l.Rules = append(l.Rules, needs(l.Asks[0].Field, l.Asks[0].Choices[0], l.Asks[1].Field, l.Asks[1].Choices[0]))
	}
	return l
}

// everything is what has all choices of a layout.
func everything(l api.Layout) []api.Choice {
	var v []api.Choice
	for _, a := range l.Asks {
		v = append(v, api.Choice{Field: a.Field, Choices: slices.Clone(a.Choices)})
	}
	return v
}

// eachBadLayout calls a function with layouts that CheckLayout does not accept.
func eachBadLayout(t *testing.T, call func(l api.Layout) (api.Errno, []any)) {
	t.Helper()
	with := func(asks []api.Ask, rules ...api.Rule) api.Layout { return api.Layout{Asks: asks, Rules: rules} }
	for want, l := range map[api.Errno]api.Layout{
		api.ErrForm:  {},
		api.ErrLarge: with(make([]api.Ask, api.MaxAsks+1)),
		api.ErrName:  with([]api.Ask{ask("Resp", "yes no")}),
		api.ErrTwice: with([]api.Ask{ask("resp", "yes yes")}),
		api.ErrKind:  with(example().Asks, api.Rule{}),
		api.ErrNone:  with(example().Asks, needs("resp", "yes", "what", "")),
		api.ErrLoop:  with(example().Asks, bars("resp", "yes", "resp", "no")),
	} {
		e, results := call(l)
		fails(t, e, want, results...)
	}
}

// Values.

// vals reads values as they are written in decisions.
func vals(s string) []api.Choice {
	var v []api.Choice
	for _, word := range words(s) {
		field, choices, _ := strings.Cut(word, "=")
		v = append(v, api.Choice{Field: field, Choices: strings.Split(choices, ",")})
	}
	return v
}

// eachBadValues calls a function with values that CheckValues does not accept for the layout of the example.
func eachBadValues(t *testing.T, call func(v []api.Choice) (api.Errno, []any)) {
	t.Helper()
	for want, v := range map[api.Errno][]api.Choice{
		api.ErrLarge: make([]api.Choice, api.MaxAsks+1),
		api.ErrNone:  vals("resp=perhaps"),
		api.ErrOrder: vals("why=hr,deal"),
		api.ErrForm:  {{Field: "why"}},
		api.ErrRule:  vals("resp=yes,no why=hr"),
	} {
		e, results := call(v)
		fails(t, e, want, results...)
	}
}

// Decisions.

func first(at int, who, item, values string) api.Decision {
	return api.Decision{At: at, Reviewer: who, Item: item, Values: vals(values)}
}

func second(at int, who, item, values string) api.Decision {
	d := first(at, who, item, values)
	d.Second = true
	return d
}

// numbered gives decisions their Nos.
func numbered(d ...api.Decision) []api.Decision {
	for i := range d {
		d[i].No = i + 1
	}
	return d
}

// manyDecisions are for free.
func manyDecisions(many int) []api.Decision {
	d := make([]api.Decision, many)
	for i := range d {
		d[i] = first(i, "ann", "a", "resp=no")
	}
	return numbered(d...)
}

// eachBadDecisions calls a function with layouts and decisions that Check does not accept.
func eachBadDecisions(t *testing.T, call func(l api.Layout, d []api.Decision) (api.Errno, []any)) {
	t.Helper()
	eachBadLayout(t, func(l api.Layout) (api.Errno, []any) { return call(l, numbered(first(-1, "", "", ""))) })
	eachBadValues(t, func(v []api.Choice) (api.Errno, []any) {
		return call(example(), []api.Decision{{No: 1, Reviewer: "ann", Item: "a", Values: v}})
	})
	for want, d := range map[api.Errno][]api.Decision{
		api.ErrLarge: make([]api.Decision, api.MaxDecisions+1),
		api.ErrArg:   numbered(first(api.End, "ann", "a", "resp=no")),
		api.ErrName:  numbered(first(5, "Ann", "a", "resp=no")),
		api.ErrForm:  numbered(first(5, "ann", "a", "")),
		api.ErrRule:  numbered(first(5, "ann", "a", "resp=yes")),
	} {
		e, results := call(example(), d)
		fails(t, e, want, results...)
	}
}

// keepsDecisions calls a function with a layout and decisions whose lists have room, and checks that they are as before (Z2).
func keepsDecisions(t *testing.T, call func(l api.Layout, d []api.Decision)) {
	t.Helper()
	fresh := func() []api.Decision {
		d := numbered(second(7, "bob", "b", "iss=z,a,m hot=hot"), first(9, "ann", "b", "resp=yes iss=z hot=cold"), first(3, "ann", "a", "resp=no hot=hot"))
		d[0].Values[0].Choices = d[0].Values[0].Choices[:2]
		d[1].Values = d[1].Values[:2]
		return d
	}
	d := fresh()
	keepsLayout(t, func(l api.Layout) { call(l, d[:2]) })
	is(t, d, fresh())
	is(t, d[0].Values[0].Choices[:3], words("z a m"))
	is(t, d[1].Values[:3], vals("resp=yes iss=z hot=cold"))
}

// keepsLayout calls a function with the layout free with room in its lists, and checks that it is as before (Z2).
func keepsLayout(t *testing.T, call func(l api.Layout)) {
	t.Helper()
	fresh := func() api.Layout {
		l := free()
		l.Asks = append(l.Asks, ask("zz", "zz"))
		l.Asks[1].Choices = append(l.Asks[1].Choices, "zz")
		l.Rules = []api.Rule{needs("hot", "cold", "resp", ""), {}}
		return l
	}
	long := fresh()
	l := api.Layout{Asks: slices.Clone(long.Asks)[:3], Rules: long.Rules[:1]}
	l.Asks[1].Choices = l.Asks[1].Choices[:3]
	call(l)
	is(t, long, fresh())
	want := free()
	want.Rules = fresh().Rules[:1]
	is(t, l, want)
	is(t, l.Asks[:4][3], ask("zz", "zz"))
}

// Codings.

func coding(item, values string) api.Coding { return api.Coding{Item: item, Values: vals(values)} }

// eachBadCodings calls a function with a right layout and codings that are not right.
func eachBadCodings(t *testing.T, call func(l api.Layout, c []api.Coding) (api.Errno, []any)) {
	t.Helper()
	eachBadValues(t, func(v []api.Choice) (api.Errno, []any) {
		return call(example(), []api.Coding{coding("a", "resp=yes"), {Item: "b", Values: v}})
	})
	for want, c := range map[api.Errno][]api.Coding{
		api.ErrLarge: make([]api.Coding, api.MaxItems+1),
		api.ErrName:  {coding("A", "resp=perhaps")},
		api.ErrOrder: {coding("a", ""), coding("a", "resp=perhaps")},
	} {
		e, results := call(example(), c)
		fails(t, e, want, results...)
	}
	e, results := call(example(), []api.Coding{coding("b", ""), coding("a", "resp=yes")})
	fails(t, e, api.ErrOrder, results...)
}

// keepsCodings calls a function with codings whose lists have room, and checks that they are as before (Z2).
func keepsCodings(t *testing.T, call func(l api.Layout, c []api.Coding)) {
	t.Helper()
	fresh := func() []api.Coding {
		c := []api.Coding{coding("a", "resp=yes iss=z,a,m"), coding("b", "resp=no hot=hot"), coding("zz", "zz=zz")}
		c[0].Values[1].Choices = c[0].Values[1].Choices[:2]
		c[1].Values = c[1].Values[:1]
		return c
	}
	c := fresh()
	keepsLayout(t, func(l api.Layout) { call(l, c[:2]) })
	is(t, c, fresh())
	is(t, c[0].Values[1].Choices[:3], words("z a m"))
	is(t, c[1].Values[:2], vals("resp=no hot=hot"))
}

// Items.

func item(id, parent, text string) api.Item {
	return api.Item{Id: id, Custodian: "ann", Kind: api.ItemMail, At: 100, Parent: parent, Text: text}
}

// eachBadList calls a function with lists that intake.Check does not accept.
func eachBadList(t *testing.T, call func(l []api.Item) (api.Errno, []any)) {
	t.Helper()
	late, file := item("a", "", ""), item("a", "", "")
	late.At, file.Kind = api.End, api.ItemFile
	for want, l := range map[api.Errno][]api.Item{
		api.ErrLarge: make([]api.Item, api.MaxItems+1),
		api.ErrName:  {item("A", "", "")},
		api.ErrArg:   {late},
		api.ErrForm:  {item("a", "", "text")},
		api.ErrOrder: {item("b", "", ""), item("a", "", "")},
		api.ErrNone:  {item("a", "b", "")},
		api.ErrLoop:  {item("a", "b", ""), item("b", "a", "")},
		api.ErrRule:  {file, item("b", "a", "")},
	} {
		e, results := call(l)
		fails(t, e, want, results...)
	}
}

// keepsItems calls a function with items that have room, and checks that they are as before (Z2).
func keepsItems(t *testing.T, call func(l []api.Item)) {
	t.Helper()
	fresh := func() []api.Item {
		return []api.Item{item("a", "b", "z\n"), item("b", "", "y\n"), item("c", "", "z\n"), item("d", "?", "")}
	}
	l := fresh()
	call(l[:3])
	is(t, l, fresh())
}

// What the document says of values and decisions, word by word.

func placeOf(l api.Layout, field string) int {
	return slices.IndexFunc(l.Asks, func(a api.Ask) bool { return a.Field == field })
}

// choicesOf returns the value of a field, written as one word; empty if there is none.
func choicesOf(v []api.Choice, field string) string {
	for _, c := range v {
		if c.Field == field {
			return "," + strings.Join(c.Choices, ",") + ","
		}
	}
	return ""
}

func chose(v []api.Choice, field, choice string) bool {
	return strings.Contains(choicesOf(v, field), ","+choice+",")
}

func breaks(r api.Rule, v []api.Choice) bool {
	if !chose(v, r.Field, r.If) {
		return false
	}
	none := choicesOf(v, r.Other) == ""
	if r.Kind == api.RuleNeeds {
		return none || r.Then != "" && !chose(v, r.Other, r.Then)
	}
	return !none && (r.Then == "" || chose(v, r.Other, r.Then))
}

// places are those of the fields and choices of values; -1 is the end of a list.
func places(l api.Layout, v []api.Choice) []int {
	var p []int
	for _, c := range v {
		i := placeOf(l, c.Field)
		p = append(p, i)
		for _, choice := range c.Choices {
			p = append(p, slices.Index(l.Asks[i].Choices, choice))
		}
		p = append(p, -1)
	}
	return p
}

// later says whether a is later than b.
func later(l api.Layout, a, b api.Decision) bool {
	if a.At != b.At {
		return a.At > b.At
	}
	if a.Second != b.Second {
		return a.Second
	}
	if a.Reviewer != b.Reviewer {
		return a.Reviewer > b.Reviewer
	}
	return slices.Compare(places(l, a.Values), places(l, b.Values)) > 0
}

// latestOf returns the latest one of the decisions that count; nil if there is none.
func latestOf(l api.Layout, d []api.Decision, counts func(x api.Decision) bool) *api.Decision {
	var last *api.Decision
	for i := range d {
		if counts(d[i]) && (last == nil || later(l, d[i], *last)) {
			last = &d[i]
		}
	}
	return last
}

// itemsOf returns the Items of decisions, sorted, each once.
func itemsOf(d []api.Decision) []string {
	var l []string
	for _, x := range d {
		l = append(l, x.Item)
	}
	slices.Sort(l)
	return slices.Compact(l)
}

// Random layouts, values, decisions and items, of which much is equal.

func pick[T any](r *rand.Rand, l ...T) T { return l[r.IntN(len(l))] }

// mixed returns a list in another order.
func mixed[T any](r *rand.Rand, l []T) []T {
	l = slices.Clone(l)
	r.Shuffle(len(l), func(i, k int) { l[i], l[k] = l[k], l[i] })
	return l
}

func randomLayout(r *rand.Rand) api.Layout {
	var l api.Layout
	for _, field := range mixed(r, words("f g h i"))[:1+r.IntN(4)] {
		choices := mixed(r, words("a b c"))[:1+r.IntN(3)]
		l.Asks = append(l.Asks, api.Ask{Field: field, Choices: choices, Many: r.IntN(2) == 0, Spread: r.IntN(3)})
	}
	if len(l.Asks) == 1 {
		return l
	}
	for range r.IntN(4) {
		two := mixed(r, l.Asks)
		rule := api.Rule{Kind: 1 + r.IntN(2), Field: two[0].Field, If: pick(r, two[0].Choices...), Other: two[1].Field}
		if r.IntN(2) == 0 {
			rule.Then = pick(r, two[1].Choices...)
		}
		l.Rules = append(l.Rules, rule)
	}
	return l
}

// randomValues are right, but can break rules, or be none.
func randomValues(r *rand.Rand, l api.Layout) []api.Choice {
	var v []api.Choice
	for _, a := range l.Asks {
		var choices []string
		for _, choice := range a.Choices {
			if r.IntN(2) == 0 && (a.Many || len(choices) == 0) {
				choices = append(choices, choice)
			}
		}
		if len(choices) > 0 {
			v = append(v, api.Choice{Field: a.Field, Choices: choices})
		}
	}
	return v
}

func randomDecisions(r *rand.Rand, l api.Layout, most int) []api.Decision {
	var d []api.Decision
	for range r.IntN(most + 1) {
		v := randomValues(r, l)
		if len(v) == 0 || slices.ContainsFunc(l.Rules, func(rule api.Rule) bool { return breaks(rule, v) }) {
			continue
		}
		d = append(d, api.Decision{At: r.IntN(4), Reviewer: pick(r, "ann", "bob", "cid"), Item: pick(r, "x", "y", "z"), Second: r.IntN(2) == 0, Values: v})
	}
	return numbered(d...)
}

func randomCodings(r *rand.Rand, l api.Layout, ids []string) []api.Coding {
	var c []api.Coding
	for _, id := range ids {
		if r.IntN(3) > 0 {
			c = append(c, api.Coding{Item: id, Values: randomValues(r, l)})
		}
	}
	return c
}

// randomItems are items in families.
func randomItems(r *rand.Rand, most int) []api.Item {
	var l []api.Item
	for i := range r.IntN(most + 1) {
		x := item(name("m", i), "", pick(r, "", "one\n", "two\n"))
		x.Kind = pick(r, api.ItemMail, api.ItemBox, api.ItemFile)
		l = append(l, x)
	}
	for i := range l {
		l[i].Parent = l[r.IntN(len(l))].Id
		if r.IntN(3) == 0 || intake.Check(l) != api.OK {
			l[i].Parent = ""
		}
	}
	return l
}
