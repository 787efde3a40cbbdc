package review_test

import (
	"math/rand/v2"
	"strings"
	"testing"

	"paperchase/api"
	"paperchase/intake"
	"paperchase/review"
)

// papers has the family of b (a, then d within c) and that of e; a, d and e have the same Sum.
func papers() []api.Item {
	return []api.Item{item("a", "b", "x\n"), item("b", "", "y\n"), item("c", "b", "z\n"), item("d", "c", "x\n"), item("e", "", "x\n")}
}

// P6.4
func TestSpread(t *testing.T) {
	for _, c := range []struct{ codings, want []api.Coding }{
		{nil, nil},
		{[]api.Coding{coding("a", "")}, nil},
		{[]api.Coding{coding("zz", "resp=yes iss=m hot=hot")}, nil}, // not in the list
		{[]api.Coding{coding("c", "hot=hot")}, []api.Coding{coding("c", "hot=hot")}},
		{[]api.Coding{coding("d", "resp=no")}, []api.Coding{coding("a", "resp=no"), coding("d", "resp=no"), coding("e", "resp=no")}},
		{
			[]api.Coding{coding("d", "resp=no"), coding("e", "resp=yes")}, // the first one by Id
			[]api.Coding{coding("a", "resp=no"), coding("d", "resp=no"), coding("e", "resp=yes")},
		},
		{
			[]api.Coding{coding("a", "iss=z"), coding("b", ""), coding("c", "iss=m"), coding("e", "hot=cold")}, // a comes before c in the family
			[]api.Coding{coding("a", "iss=z"), coding("b", "iss=z"), coding("c", "iss=m"), coding("d", "iss=z"), coding("e", "hot=cold")},
		},
		{
			[]api.Coding{coding("a", "iss=z"), coding("b", "iss=a,m")}, // so does b before a, though not by Id
			[]api.Coding{coding("a", "iss=z"), coding("b", "iss=a,m"), coding("c", "iss=a,m"), coding("d", "iss=a,m")},
		},
		{
			[]api.Coding{coding("b", "resp=yes iss=a hot=hot"), coding("e", "resp=no iss=m")}, // what is spread does not spread further
			[]api.Coding{coding("a", "resp=no iss=a"), coding("b", "resp=yes iss=a hot=hot"), coding("c", "iss=a"), coding("d", "resp=no iss=a"), coding("e", "resp=no iss=m")},
		},
	} {
		got, e := review.Spread(free(), papers(), c.codings)
		gives(t, got, e, c.want)
	}
	got, e := review.Spread(free(), nil, []api.Coding{coding("a", "resp=yes")})
	gives(t, got, e, []api.Coding{})
	// Other kinds have other Sums, other names and moments the same.
	l := papers()
	l[3].Kind, l[4].Name, l[4].At, l[4].Custodian = api.ItemFile, "Name", 7, "zed"
	got, e = review.Spread(free(), l, []api.Coding{coding("a", "resp=yes")})
	gives(t, got, e, []api.Coding{coding("a", "resp=yes"), coding("e", "resp=yes")})
	// What is spread can break rules.
	rules := free()
	rules.Rules = []api.Rule{needs("iss", "a", "hot", "")}
	got, e = review.Spread(rules, papers(), []api.Coding{coding("a", "iss=a hot=hot")})
	is(t, []any{len(got), e}, []any{4, api.OK})
	broken, e := review.Broken(rules, got[1].Values)
	gives(t, broken, e, []int{0})
}

// P6.4
func TestSpreadErrors(t *testing.T) {
	eachBadLayout(t, func(l api.Layout) (api.Errno, []any) {
		got, e := review.Spread(l, []api.Item{{}}, make([]api.Coding, api.MaxItems+1))
		return e, []any{got}
	})
	eachBadList(t, func(l []api.Item) (api.Errno, []any) {
		got, e := review.Spread(example(), l, []api.Coding{coding("a", "resp=maybe")})
		return e, []any{got}
	})
	eachBadCodings(t, func(l api.Layout, c []api.Coding) (api.Errno, []any) {
		got, e := review.Spread(l, papers(), c)
		return e, []any{got}
	})
}

// spreadBy says what counts for an item as the document's words do.
func spreadBy(items []api.Item, own map[string][]api.Choice, x api.Item, a api.Ask) []api.Choice {
	var l []api.Choice
	add := func(id string) {
		for _, c := range own[id] {
			if c.Field == a.Field {
				l = append(l, c)
			}
		}
	}
	add(x.Id)
	switch a.Spread {
	case api.SpreadSame:
		sum, _ := intake.Sum(x)
		for _, y := range items {
			if other, _ := intake.Sum(y); other == sum {
				add(y.Id)
			}
		}
	case api.SpreadFamily:
		f, _ := intake.FamilyOf(items, x.Id)
		for _, id := range f.Items {
			add(id)
		}
	}
	if len(l) > 0 {
		return l[:1]
	}
	return nil
}

// P6.4: Spread is as the document's words say.
func TestSpreadRandom(t *testing.T) {
	r := rand.New(rand.NewPCG(6, 4))
	for range 2_000 {
		l, items := randomLayout(r), randomItems(r, 8)
		ids := names("m", 10)
		c := randomCodings(r, l, ids)
		own := map[string][]api.Choice{}
		for _, x := range c {
			own[x.Item] = x.Values
		}
		var want []api.Coding
		for _, x := range items {
			one := api.Coding{Item: x.Id}
			for _, a := range l.Asks {
				one.Values = append(one.Values, spreadBy(items, own, x, a)...)
			}
			if len(one.Values) > 0 {
				want = append(want, one)
			}
		}
		got, e := review.Spread(l, items, c)
		gives(t, got, e, want)
		_, e = review.Tally(l, got, l.Asks[0].Field)
		is(t, e, api.OK)
	}
}

// P6.4, Z1: as much as there can be.
func TestSpreadMuch(t *testing.T) {
	l := wide()
	var items []api.Item
	var want []api.Coding
	for _, id := range names("i", api.MaxItems) {
		items = append(items, item(id, "", strings.Repeat("\n", 100)))
		want = append(want, api.Coding{Item: id})
	}
	for i := range items {
		if i > 0 {
			items[i].Parent = items[0].Id
		}
		want[i].Values = everything(l)[:1]
	}
	c := []api.Coding{want[api.MaxItems-1]}
	for how := range 3 {
		for i := range l.Asks {
			l.Asks[i].Spread = how
		}
		got, e := review.Spread(l, items, c)
		if how == api.SpreadNone {
			gives(t, got, e, c)
		} else {
			gives(t, got, e, want)
		}
	}
}

// Z2
func TestSpreadKeeps(t *testing.T) {
	keepsCodings(t, func(l api.Layout, c []api.Coding) {
		keepsItems(t, func(items []api.Item) {
			got, e := review.Spread(l, items, c)
			want := []api.Coding{coding("a", "resp=yes iss=z,a"), coding("b", "resp=no iss=z,a"), coding("c", "resp=yes")}
			gives(t, got, e, want)
			got[0].Values[0].Choices[0], got[1].Values[1].Choices[0] = "?", "?"
			got[1].Values[1].Choices = append(got[1].Values[1].Choices, "?")
			is(t, []any{got[0].Values[1], got[2]}, []any{want[0].Values[1], want[2]})
		})
	})
}
