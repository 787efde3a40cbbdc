package review_test

import (
	"math/rand/v2"
	"testing"

	"paperchase/api"
	"paperchase/review"
)

// P6.1
func TestCheckValues(t *testing.T) {
	for _, s := range []string{"", "resp=yes", "resp=no", "iss=z", "iss=z,m", "iss=z,a,m", "resp=yes iss=a hot=cold", "iss=m hot=hot"} {
		is(t, review.CheckValues(free(), vals(s)), api.OK)
	}
	is(t, review.CheckValues(wide(), everything(wide())), api.OK)
	is(t, review.CheckValues(example(), vals("resp=yes")), api.OK) // rules are not asked for
	for _, c := range []struct {
		e api.Errno
		v []api.Choice
	}{
		{api.ErrNone, vals("yes=resp")},
		{api.ErrNone, []api.Choice{{}}},
		{api.ErrOrder, vals("resp=yes resp=no")},
		{api.ErrOrder, vals("hot=hot iss=z")},
		{api.ErrOrder, vals("resp=yes hot=hot iss=z")},
		{api.ErrForm, []api.Choice{{Field: "resp"}}},
		{api.ErrForm, []api.Choice{{Field: "resp", Choices: []string{}}}},
		{api.ErrRule, vals("resp=yes,no")},
		{api.ErrRule, vals("hot=cold,warm")},
		{api.ErrRule, vals("hot=hot,hot")},
		{api.ErrNone, vals("resp=maybe")},
		{api.ErrNone, vals("resp=hot")},
		{api.ErrNone, vals("iss=z,x")},
		{api.ErrNone, []api.Choice{{Field: "iss", Choices: []string{""}}}},
		{api.ErrOrder, vals("iss=a,z")},
		{api.ErrOrder, vals("iss=z,z")},
		{api.ErrOrder, vals("iss=z,m,a")},
		{api.ErrLarge, make([]api.Choice, api.MaxAsks+1)},
		{api.ErrNone, make([]api.Choice, api.MaxAsks)},
	} {
		is(t, review.CheckValues(free(), c.v), c.e)
	}
	eachBadLayout(t, func(l api.Layout) (api.Errno, []any) {
		return review.CheckValues(l, make([]api.Choice, api.MaxAsks+1)), nil
	})
	eachBadValues(t, func(v []api.Choice) (api.Errno, []any) { return review.CheckValues(example(), v), nil })
}

// P6.1: of several errors the first one of the list, choice by choice.
func TestCheckValuesOrder(t *testing.T) {
	v := make([]api.Choice, api.MaxAsks+1)
	v[0] = vals("iss=m")[0]
	v[1].Field = "x"
	for _, s := range []step{
		{api.ErrLarge, func() {}},
		{api.ErrNone, func() { v = v[:3] }},
		{api.ErrOrder, func() { v[1].Field = "resp" }},
		{api.ErrForm, func() { v[1].Field = "hot" }},
		{api.ErrRule, func() { v[1].Choices = words("x cold") }},
		{api.ErrNone, func() { v[1].Choices = words("x") }},
		{api.ErrNone, func() { v[1].Choices = words("hot") }}, // the third one
		{api.ErrNone, func() { v = vals("iss=m,x,a hot=x") }},
		{api.ErrOrder, func() { v = vals("iss=m,a,x hot=x") }},
	} {
		s.mend()
		is(t, review.CheckValues(free(), v), s.e)
	}
}

// P6.1
func TestBroken(t *testing.T) {
	l := free()
	l.Rules = []api.Rule{
		needs("resp", "yes", "iss", ""),
		needs("resp", "yes", "iss", "a"),
		bars("resp", "no", "iss", ""),
		bars("iss", "m", "hot", "cold"),
		bars("iss", "m", "hot", ""),
		needs("hot", "hot", "resp", "yes"),
	}
	for s, want := range map[string][]int{
		"":                         {},
		"resp=yes":                 {0, 1},
		"resp=yes iss=z":           {1},
		"resp=yes iss=z,m":         {1},
		"resp=yes iss=z,a,m":       {},
		"resp=yes hot=cold":        {0, 1},
		"resp=no":                  {},
		"resp=no iss=a":            {2},
		"iss=z,a hot=cold":         {},
		"iss=z,m":                  {},
		"iss=z,m hot=cold":         {3, 4},
		"iss=m hot=hot":            {4, 5},
		"hot=hot":                  {5},
		"resp=no hot=hot":          {5},
		"resp=yes iss=a hot=hot":   {},
		"resp=no iss=m hot=hot":    {2, 4, 5},
		"resp=no iss=z,m hot=cold": {2, 3, 4},
	} {
		got, e := review.Broken(l, vals(s))
		gives(t, got, e, want)
	}
	got, e := review.Broken(example(), vals("resp=yes"))
	gives(t, got, e, []int{0})
	got, e = review.Broken(example(), vals("resp=yes why=hr"))
	gives(t, got, e, []int{})
	eachBadLayout(t, func(l api.Layout) (api.Errno, []any) {
		got, e := review.Broken(l, vals("resp=perhaps"))
		return e, []any{got}
	})
	eachBadValues(t, func(v []api.Choice) (api.Errno, []any) {
		got, e := review.Broken(example(), v)
		return e, []any{got}
	})
}

// P6.1: Broken is as the document's words say.
func TestBrokenRandom(t *testing.T) {
	r := rand.New(rand.NewPCG(6, 1))
	for range 5_000 {
		l := randomLayout(r)
		v := randomValues(r, l)
		is(t, review.CheckLayout(l), api.OK)
		is(t, review.CheckValues(l, v), api.OK)
		var want []int
		for i, rule := range l.Rules {
			if breaks(rule, v) {
				want = append(want, i)
			}
		}
		got, e := review.Broken(l, v)
		gives(t, got, e, want)
	}
}

// Z2
func TestValuesKeep(t *testing.T) {
	keepsCodings(t, func(l api.Layout, c []api.Coding) {
		is(t, review.CheckValues(l, c[0].Values), api.OK)
		_, e := review.Broken(l, c[1].Values)
		is(t, e, api.OK)
	})
}
