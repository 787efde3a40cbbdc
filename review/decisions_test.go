package review_test

import (
	"math"
	"math/rand/v2"
	"slices"
	"strings"
	"testing"

	"paperchase/api"
	"paperchase/review"
)

// P6.2
func TestCheck(t *testing.T) {
	key := "z" + strings.Repeat("9", api.MaxName-1)
	for _, d := range [][]api.Decision{
		nil,
		numbered(first(0, "a", "a", "resp=no")),
		numbered(second(api.End-1, key, key, "resp=yes why=deal,hr")),
		numbered(first(5, "bob", "a", "resp=yes why=hr"), first(5, "bob", "a", "resp=yes why=hr"), second(0, "ann", "b", "why=deal")),
	} {
		is(t, review.Check(example(), d), api.OK)
	}
	is(t, review.Check(free(), manyDecisions(api.MaxDecisions)), api.OK)
	is(t, review.Check(free(), manyDecisions(api.MaxDecisions+1)), api.ErrLarge)
	is(t, review.Check(wide(), numbered(api.Decision{Reviewer: "a", Item: "a", Values: everything(wide())})), api.OK)
	eachBadDecisions(t, func(l api.Layout, d []api.Decision) (api.Errno, []any) { return review.Check(l, d), nil })
	good := first(5, "ann", "a", "resp=no")
	for _, no := range []int{0, 1, 3, -2, math.MinInt, math.MaxInt} {
		d := numbered(good, good)
		d[1].No = no
		is(t, review.Check(example(), d), api.ErrArg)
	}
	for _, at := range badMoments() {
		is(t, review.Check(example(), numbered(good, first(at, "ann", "a", "resp=no"))), api.ErrArg)
	}
	for _, c := range []struct {
		e api.Errno
		d api.Decision
	}{
		{api.ErrName, first(5, "", "a", "resp=no")},
		{api.ErrName, first(5, "ann", "", "resp=no")},
		{api.ErrName, first(5, "ann b", "a", "resp=no")},
		{api.ErrName, first(5, "ann", "a\n", "resp=no")},
		{api.ErrName, first(5, strings.Repeat("k", api.MaxName+1), "a", "resp=no")},
		{api.ErrNone, first(5, "ann", "a", "resp=no what=hr")},
		{api.ErrOrder, first(5, "ann", "a", "why=hr resp=no")},
		{api.ErrForm, second(5, "ann", "a", "")},
		{api.ErrRule, second(5, "ann", "a", "resp=yes")},
	} {
		is(t, review.Check(example(), numbered(good, c.d)), c.e)
	}
}

// P6.2: of several errors the first one of the list, decision by decision.
func TestCheckOrder(t *testing.T) {
	l := api.Layout{}
	d := make([]api.Decision, api.MaxDecisions+1)
	d[0] = numbered(first(5, "ann", "a", "resp=no"))[0]
	x := &d[1]
	x.At = -1
	for _, s := range []step{
		{api.ErrForm, func() {}}, // of the layout
		{api.ErrLarge, func() { l = example() }},
		{api.ErrArg, func() { d = d[:3] }},
		{api.ErrArg, func() { x.No = 2 }},
		{api.ErrName, func() { x.At = 3 }},
		{api.ErrName, func() { x.Reviewer = "ann" }},
		{api.ErrForm, func() { x.Item = "b" }},
		{api.ErrLarge, func() { x.Values = make([]api.Choice, api.MaxAsks+1) }},
		{api.ErrNone, func() { x.Values = vals("resp=yes x=y") }},
		{api.ErrRule, func() { x.Values = vals("resp=yes") }},
		{api.ErrArg, func() { x.Values = vals("resp=yes why=hr") }}, // the third one
	} {
		s.mend()
		is(t, review.Check(l, d), s.e)
	}
}

// P6.2
func TestDecide(t *testing.T) {
	old := numbered(first(5, "bob", "a", "resp=no"), first(3, "ann", "b", "why=deal"))
	for _, no := range []int{0, 3, -7, math.MaxInt} {
		n := second(1, "cid", "a", "resp=yes why=deal,hr")
		n.No = no
		got, e := review.Decide(example(), old, n)
		gives(t, got, e, numbered(old[0], old[1], second(1, "cid", "a", "resp=yes why=deal,hr")))
		is(t, review.Check(example(), got), api.OK)
	}
	got, e := review.Decide(example(), nil, old[1])
	gives(t, got, e, numbered(first(3, "ann", "b", "why=deal")))
	got, e = review.Decide(example(), old, old[0]) // an equal one is added, too
	gives(t, got, e, numbered(first(5, "bob", "a", "resp=no"), first(3, "ann", "b", "why=deal"), first(5, "bob", "a", "resp=no")))
	eachBadDecisions(t, func(l api.Layout, d []api.Decision) (api.Errno, []any) {
		got, e := review.Decide(l, d, api.Decision{At: -1})
		return e, []any{got}
	})
	eachBadValues(t, func(v []api.Choice) (api.Errno, []any) {
		got, e := review.Decide(example(), old, api.Decision{Reviewer: "ann", Item: "a", Values: v})
		return e, []any{got}
	})
	for _, c := range []struct {
		e api.Errno
		n api.Decision
	}{
		{api.ErrArg, first(-1, "", "a", "")},
		{api.ErrArg, first(api.End, "ann", "a", "resp=no")},
		{api.ErrName, first(5, "", "a", "resp=x")},
		{api.ErrName, first(5, "ann", "A", "resp=x")},
		{api.ErrForm, first(5, "ann", "a", "")},
		{api.ErrRule, first(6, "ann", "a", "resp=yes")},
	} {
		got, e := review.Decide(example(), old, c.n)
		fails(t, e, c.e, got)
	}
}

// P6.2: there is room for MaxDecisions.
func TestDecideFull(t *testing.T) {
	got, e := review.Decide(free(), manyDecisions(api.MaxDecisions-1), manyDecisions(api.MaxDecisions)[api.MaxDecisions-1])
	gives(t, got, e, manyDecisions(api.MaxDecisions))
	got, e = review.Decide(free(), got, got[0])
	fails(t, e, api.ErrFull, got)
	got, e = review.Decide(free(), manyDecisions(api.MaxDecisions), api.Decision{At: -1})
	fails(t, e, api.ErrFull, got)
}

// P6.2
func TestMerge(t *testing.T) {
	a := numbered(second(5, "bob", "a", "resp=no"), first(5, "bob", "a", "resp=no"), first(9, "ann", "a", "hot=hot"), first(5, "bob", "a", "resp=no"))
	b := numbered(first(5, "ann", "b", "resp=no"), first(9, "ann", "a", "hot=hot"), first(5, "cid", "a", "resp=no"), first(5, "bob", "a", "resp=no iss=z"),
		first(5, "bob", "a", "resp=yes"), first(5, "bob", "a", "iss=z,a"), first(5, "bob", "a", "iss=z"), first(5, "bob", "a", "iss=a"), first(4, "zed", "z", "hot=cold"))
	want := numbered(
		first(4, "zed", "z", "hot=cold"),
		first(5, "bob", "a", "resp=yes"),
		first(5, "bob", "a", "resp=no"),
		first(5, "bob", "a", "resp=no iss=z"),
		first(5, "bob", "a", "iss=z"),
		first(5, "bob", "a", "iss=z,a"),
		first(5, "bob", "a", "iss=a"),
		second(5, "bob", "a", "resp=no"),
		first(5, "cid", "a", "resp=no"),
		first(5, "ann", "b", "resp=no"),
		first(9, "ann", "a", "hot=hot"),
	)
	got, e := review.Merge(free(), a, b)
	gives(t, got, e, want)
	got, e = review.Merge(free(), b, a)
	gives(t, got, e, want)
	got, e = review.Merge(free(), want, nil)
	gives(t, got, e, want)
	got, e = review.Merge(free(), nil, nil)
	gives(t, got, e, []api.Decision{})
	eachBadDecisions(t, func(l api.Layout, d []api.Decision) (api.Errno, []any) {
		got, e := review.Merge(l, d, nil)
		return e, []any{got}
	})
	eachBadDecisions(t, func(l api.Layout, d []api.Decision) (api.Errno, []any) {
		got, e := review.Merge(l, nil, d)
		return e, []any{got}
	})
	got, e = review.Merge(free(), numbered(first(-1, "ann", "a", "resp=no")), make([]api.Decision, api.MaxDecisions+1))
	fails(t, e, api.ErrArg, got)
}

// P6.2: what is there twice needs room once.
func TestMergeFull(t *testing.T) {
	full := manyDecisions(api.MaxDecisions)
	got, e := review.Merge(free(), full, full)
	gives(t, got, e, full)
	got, e = review.Merge(free(), full, numbered(first(0, "ann", "b", "resp=no")))
	fails(t, e, api.ErrFull, got)
	got, e = review.Merge(free(), full[:api.MaxDecisions-1], numbered(first(0, "ann", "b", "resp=no")))
	is(t, []any{len(got), e}, []any{api.MaxDecisions, api.OK})
	got, e = review.Merge(free(), full, numbered(first(0, "ann", "b", "resp=x")))
	fails(t, e, api.ErrNone, got)
}

// mergedBy puts lists together as the document's words say.
func mergedBy(l api.Layout, d []api.Decision) []api.Decision {
	var all []api.Decision
	for _, x := range d {
		x.No = 0
		if !slices.ContainsFunc(all, func(y api.Decision) bool { return same(l, x, y) }) {
			all = append(all, x)
		}
	}
	before := func(x, y api.Decision) bool {
		switch {
		case x.At != y.At:
			return x.At < y.At
		case x.Item != y.Item:
			return x.Item < y.Item
		case x.Reviewer != y.Reviewer:
			return x.Reviewer < y.Reviewer
		case x.Second != y.Second:
			return y.Second
		}
		return slices.Compare(places(l, x.Values), places(l, y.Values)) < 0
	}
	slices.SortFunc(all, func(x, y api.Decision) int {
		if before(x, y) {
			return -1
		}
		return 1
	})
	return numbered(all...)
}

// same says whether two decisions are equal but for their Nos.
func same(l api.Layout, x, y api.Decision) bool {
	return x.At == y.At && x.Item == y.Item && x.Reviewer == y.Reviewer && x.Second == y.Second && slices.Equal(places(l, x.Values), places(l, y.Values))
}

// P6.2: Merge is as the document's words say, in whatever order and portions.
func TestMergeRandom(t *testing.T) {
	r := rand.New(rand.NewPCG(6, 2))
	for range 2_000 {
		l := randomLayout(r)
		a, b, c := randomDecisions(r, l, 8), randomDecisions(r, l, 8), randomDecisions(r, l, 8)
		ab, e := review.Merge(l, a, b)
		gives(t, ab, e, mergedBy(l, slices.Concat(a, b)))
		is(t, review.Check(l, ab), api.OK)
		ba, e := review.Merge(l, b, a)
		gives(t, ba, e, ab)
		again, e := review.Merge(l, ab, a)
		gives(t, again, e, ab)
		left, _ := review.Merge(l, ab, c)
		bc, _ := review.Merge(l, b, c)
		right, e := review.Merge(l, a, bc)
		gives(t, right, e, left)
	}
}

// Z2
func TestDecisionsKeep(t *testing.T) {
	keepsDecisions(t, func(l api.Layout, d []api.Decision) {
		spoil := func(got []api.Decision, e api.Errno) {
			is(t, e, api.OK)
			for i := range got {
				v := got[i].Values
				v[0].Choices[0] = "?"
				for k := range v {
					v[k].Choices = append(v[k].Choices, "?")
				}
				v[0].Field = "?"
				got[i].Values, got[i].Item = append(v, api.Choice{}), "?"
			}
		}
		is(t, review.Check(l, d), api.OK)
		got, e := review.Decide(l, d, d[0])
		spoil(got[:1], e)
		is(t, got[2].Values, d[0].Values)
		spoil(review.Decide(l, d, d[1]))
		spoil(review.Decide(l, nil, d[1]))
		spoil(review.Merge(l, d, nil))
		spoil(review.Merge(l, nil, d))
		spoil(review.Merge(l, d, d))
	})
}
