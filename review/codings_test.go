package review_test

import (
	"math/rand/v2"
	"slices"
	"testing"

	"paperchase/api"
	"paperchase/review"
)

// history is decisions on a, and on b later ones with a second look.
func history() []api.Decision {
	return numbered(
		first(20, "ann", "b", "resp=no"),
		first(5, "ann", "a", "resp=no"),
		first(5, "bob", "a", "resp=yes why=hr"),
		first(30, "ann", "b", "why=deal"),
		second(20, "ann", "b", "why=deal,hr"),
		first(20, "zed", "b", "why=hr"),
	)
}

// P6.3
func TestCodingOf(t *testing.T) {
	for _, c := range []struct {
		item string
		at   int
		want string
	}{
		{"a", 0, ""},
		{"a", 4, ""},
		{"a", 5, "resp=yes why=hr"},
		{"a", api.End - 1, "resp=yes why=hr"},
		{"b", 19, ""},
		{"b", 20, "why=deal,hr"},
		{"b", 29, "why=deal,hr"},
		{"b", 30, "why=deal"},
		{"c", 30, ""},
	} {
		got, e := review.CodingOf(example(), history(), c.item, c.at)
		gives(t, got, e, coding(c.item, c.want))
	}
	eachBadDecisions(t, func(l api.Layout, d []api.Decision) (api.Errno, []any) {
		got, e := review.CodingOf(l, d, "", -1)
		return e, []any{got}
	})
	for _, item := range []string{"", "A", "a b"} {
		got, e := review.CodingOf(example(), history(), item, -1)
		fails(t, e, api.ErrName, got)
	}
	for _, at := range badMoments() {
		got, e := review.CodingOf(example(), history(), "a", at)
		fails(t, e, api.ErrArg, got)
		got, e = review.CodingOf(example(), nil, "a", at)
		fails(t, e, api.ErrArg, got)
	}
}

// P6.3: of two decisions at the same moment, by the same reviewer, that with the greater Values counts.
func TestLater(t *testing.T) {
	rising := words("resp=yes resp=yes_iss=z resp=yes_iss=z_hot=hot resp=yes_iss=z_hot=cold resp=yes_iss=z,a resp=yes_iss=z,a,m resp=yes_iss=z,m resp=yes_iss=a resp=yes_hot=hot resp=no iss=z,a iss=m hot=hot hot=cold")
	for i, s := range rising {
		for k, other := range rising {
			d := numbered(first(5, "ann", "a", spaced(s)), first(5, "ann", "a", spaced(other)))
			got, e := review.CodingOf(free(), d, "a", 5)
			gives(t, got, e, coding("a", spaced(rising[max(i, k)])))
		}
	}
	for _, pair := range [][2]api.Decision{
		{first(5, "zed", "a", "hot=cold"), first(6, "ann", "a", "resp=yes")},
		{second(5, "zed", "a", "hot=cold"), first(6, "ann", "a", "resp=yes")},
		{first(5, "zed", "a", "hot=cold"), second(5, "ann", "a", "resp=yes")},
		{first(5, "ann", "a", "hot=cold"), first(5, "ann-1", "a", "resp=yes")},
		{second(5, "ann", "a", "hot=cold"), second(5, "bob", "a", "resp=yes")},
	} {
		for _, d := range [][]api.Decision{numbered(pair[0], pair[1]), numbered(pair[1], pair[0])} {
			got, e := review.CodingOf(free(), d, "a", 9)
			gives(t, got, e, coding("a", "resp=yes"))
		}
	}
}

// spaced writes blanks for the signs between values.
func spaced(s string) string {
	b := []byte(s)
	for i := range b {
		if b[i] == '_' {
			b[i] = ' '
		}
	}
	return string(b)
}

// P6.3
func TestCodings(t *testing.T) {
	for at, want := range map[int][]api.Coding{
		0:           {},
		5:           {coding("a", "resp=yes why=hr")},
		20:          {coding("a", "resp=yes why=hr"), coding("b", "why=deal,hr")},
		api.End - 1: {coding("a", "resp=yes why=hr"), coding("b", "why=deal")},
	} {
		got, e := review.Codings(example(), history(), at)
		gives(t, got, e, want)
	}
	eachBadDecisions(t, func(l api.Layout, d []api.Decision) (api.Errno, []any) {
		got, e := review.Codings(l, d, -1)
		return e, []any{got}
	})
	for _, at := range badMoments() {
		got, e := review.Codings(example(), history(), at)
		fails(t, e, api.ErrArg, got)
	}
	// Decisions can name more than MaxItems items.
	d := manyDecisions(api.MaxDecisions)
	for i := range d {
		d[i].Item = name("i", api.MaxDecisions-i)
	}
	got, e := review.Codings(free(), d, api.End-1)
	is(t, []any{len(got), e}, []any{api.MaxDecisions, api.OK})
	is(t, got[0], coding(name("i", 1), "resp=no"))
}

// P6.3: codings are as the document's words say, whatever the order of the decisions, and break no rule.
func TestCodingsRandom(t *testing.T) {
	r := rand.New(rand.NewPCG(6, 3))
	for range 3_000 {
		l := randomLayout(r)
		d := randomDecisions(r, l, 12)
		at := r.IntN(5)
		var want []api.Coding
		for _, item := range itemsOf(d) {
			last := latestOf(l, d, func(x api.Decision) bool { return x.Item == item && x.At <= at })
			one := api.Coding{Item: item}
			if last != nil {
				one.Values = last.Values
				want = append(want, one)
			}
			got, e := review.CodingOf(l, d, item, at)
			gives(t, got, e, one)
			broken, e := review.Broken(l, got.Values)
			gives(t, broken, e, []int{})
		}
		got, e := review.Codings(l, d, at)
		gives(t, got, e, want)
		got, e = review.Codings(l, numbered(mixed(r, d)...), at)
		gives(t, got, e, want)
		merged, _ := review.Merge(l, d, d)
		got, e = review.Codings(l, merged, at)
		gives(t, got, e, want)
	}
}

// P6.5
func TestHaving(t *testing.T) {
	c := []api.Coding{coding("a", "resp=yes why=deal,hr"), coding("b", ""), coding("c", "resp=yes"), coding("d", "resp=no why=hr")}
	for s, want := range map[string]string{"resp=yes": "a c", "resp=no": "d", "why=deal": "a", "why=hr": "a d"} {
		v := vals(s)[0]
		got, e := review.Having(example(), c, v.Field, v.Choices[0])
		gives(t, got, e, words(want))
	}
	got, e := review.Having(example(), nil, "resp", "yes")
	gives(t, got, e, []string{})
	for _, s := range []string{"what=yes", "resp=hr", "resp=", "=", "yes=resp", "Resp=yes"} {
		v := vals(s)[0]
		got, e := review.Having(example(), c, v.Field, v.Choices[0])
		fails(t, e, api.ErrNone, got)
	}
	eachBadLayout(t, func(l api.Layout) (api.Errno, []any) {
		got, e := review.Having(l, make([]api.Coding, api.MaxItems+1), "", "")
		return e, []any{got}
	})
	eachBadCodings(t, func(l api.Layout, c []api.Coding) (api.Errno, []any) {
		got, e := review.Having(l, c, "", "")
		return e, []any{got}
	})
}

// P6.5
func TestTally(t *testing.T) {
	c := []api.Coding{coding("a", "resp=yes iss=z,m"), coding("b", ""), coding("c", "resp=yes"), coding("d", "resp=no iss=m hot=cold"), coding("e", "hot=cold")}
	for field, want := range map[string][]int{"resp": {2, 1, 2}, "iss": {1, 0, 2, 3}, "hot": {0, 2, 3}} {
		got, e := review.Tally(free(), c, field)
		gives(t, got, e, want)
		got, e = review.Tally(free(), nil, field)
		gives(t, got, e, make([]int, len(want)))
	}
	for _, field := range []string{"", "why", "yes", "Resp"} {
		got, e := review.Tally(free(), c, field)
		fails(t, e, api.ErrNone, got)
	}
	eachBadLayout(t, func(l api.Layout) (api.Errno, []any) {
		got, e := review.Tally(l, make([]api.Coding, api.MaxItems+1), "")
		return e, []any{got}
	})
	eachBadCodings(t, func(l api.Layout, c []api.Coding) (api.Errno, []any) {
		got, e := review.Tally(l, c, "")
		return e, []any{got}
	})
}

// P6.4: there can be MaxItems codings.
func TestCodingsBound(t *testing.T) {
	var c []api.Coding
	for _, id := range names("i", api.MaxItems) {
		c = append(c, coding(id, "iss=z,m"))
	}
	got, e := review.Tally(free(), c, "iss")
	gives(t, got, e, []int{api.MaxItems, 0, api.MaxItems, 0})
	got, e = review.Tally(free(), append(c, coding("j", "")), "iss")
	fails(t, e, api.ErrLarge, got)
}

// P6.4: of several errors the first one of the list, coding by coding.
func TestCodingsOrder(t *testing.T) {
	c := make([]api.Coding, api.MaxItems+1)
	c[0] = coding("b", "resp=yes")
	c[1] = coding("A", "x=y")
	for _, s := range []step{
		{api.ErrLarge, func() {}},
		{api.ErrName, func() { c = c[:3] }},
		{api.ErrOrder, func() { c[1].Item = "a" }},
		{api.ErrOrder, func() { c[1].Item = "b" }},
		{api.ErrNone, func() { c[1].Item = "c" }},
		{api.ErrName, func() { c[1].Values = nil }}, // the third one
		{api.OK, func() { c = c[:2] }},
	} {
		s.mend()
		_, e := review.Tally(free(), c, "resp")
		is(t, e, s.e)
		_, e = review.Having(free(), c, "resp", "yes")
		is(t, e, s.e)
		_, e = review.Spread(free(), nil, c)
		is(t, e, s.e)
	}
}

// P6.5: the codings that Having finds are those that Tally counts.
func TestTallyRandom(t *testing.T) {
	r := rand.New(rand.NewPCG(6, 5))
	for range 1_000 {
		l := randomLayout(r)
		c := randomCodings(r, l, names("i", 6))
		for _, a := range l.Asks {
			many, e := review.Tally(l, c, a.Field)
			is(t, []any{len(many), e}, []any{len(a.Choices) + 1, api.OK})
			for i, choice := range a.Choices {
				var want []string
				for _, x := range c {
					if chose(x.Values, a.Field, choice) {
						want = append(want, x.Item)
					}
				}
				got, e := review.Having(l, c, a.Field, choice)
				gives(t, got, e, want)
				is(t, many[i], len(want))
			}
			none := slices.DeleteFunc(slices.Clone(c), func(x api.Coding) bool { return choicesOf(x.Values, a.Field) != "" })
			is(t, many[len(a.Choices)], len(none))
		}
	}
}

// Z2
func TestCodingsKeep(t *testing.T) {
	keepsDecisions(t, func(l api.Layout, d []api.Decision) {
		one, _ := review.CodingOf(l, d, "b", 8)
		all, _ := review.Codings(l, d, 8)
		for _, got := range append(all, one) {
			is(t, got, coding("b", "iss=z,a hot=hot"))
			got.Values[0].Choices[0] = "?"
			got.Values[0].Choices = append(got.Values[0].Choices, "?")
			got.Values = append(got.Values, api.Choice{})
		}
	})
	keepsCodings(t, func(l api.Layout, c []api.Coding) {
		_, e := review.Having(l, c, "resp", "yes")
		is(t, e, api.OK)
		_, e = review.Tally(l, c, "resp")
		is(t, e, api.OK)
	})
}
