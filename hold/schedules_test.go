package hold_test

import (
	"math"
	"math/rand/v2"
	"strings"
	"testing"

	"paperchase/api"
	"paperchase/hold"
)

// P5.2
func TestCheckSchedules(t *testing.T) {
	for _, l := range [][]api.Schedule{
		nil, manySchedules(api.MaxSchedules), {{Key: "a", Days: api.MaxDay}, {Key: "a-", Days: 0, Last: true}},
		{{Key: strings.Repeat("k", api.MaxName), Custodians: names(api.MaxPeople), Kinds: []int{1, 2, 3, 4}, Days: 1}},
	} {
		is(t, hold.CheckSchedules(l), api.OK)
	}
	eachBadSchedules(t, func(l []api.Schedule) (api.Errno, []any) { return hold.CheckSchedules(l), nil })
	for _, c := range []struct {
		e api.Errno
		s api.Schedule
	}{
		{api.ErrName, api.Schedule{}},
		{api.ErrName, api.Schedule{Key: strings.Repeat("k", api.MaxName+1)}},
		{api.ErrLarge, api.Schedule{Key: "s", Custodians: names(api.MaxPeople + 1)}},
		{api.ErrName, api.Schedule{Key: "s", Custodians: words("ann B")}},
		{api.ErrOrder, api.Schedule{Key: "s", Custodians: words("bob ann")}},
		{api.ErrOrder, api.Schedule{Key: "s", Custodians: words("bob bob")}},
		{api.ErrKind, api.Schedule{Key: "s", Kinds: []int{1, 0}}},
		{api.ErrOrder, api.Schedule{Key: "s", Kinds: []int{2, 2}}},
		{api.ErrArg, api.Schedule{Key: "s", Days: api.MaxDay + 1}},
		{api.ErrArg, api.Schedule{Key: "s", Days: math.MaxInt}},
		{api.ErrArg, api.Schedule{Key: "s", Days: math.MinInt}},
	} {
		is(t, hold.CheckSchedules([]api.Schedule{c.s}), c.e)
		is(t, hold.CheckSchedules([]api.Schedule{{Key: "a"}, c.s, {}}), c.e)
	}
}

// P5.2: of several errors the first one of the list, schedule by schedule.
func TestCheckSchedulesOrder(t *testing.T) {
	s := api.Schedule{Key: "A", Custodians: names(api.MaxPeople + 1), Kinds: []int{0}, Days: -1}
	s.Custodians[0] = "B"
	large := true
	for _, step := range []step{
		{api.ErrLarge, func() {}},
		{api.ErrName, func() { large = false }},
		{api.ErrOrder, func() { s.Key = "b" }},
		{api.ErrLarge, func() { s.Key = "c" }},
		{api.ErrName, func() { s.Custodians = s.Custodians[:2] }},
		{api.ErrOrder, func() { s.Custodians[0] = "z" }},
		{api.ErrKind, func() { s.Custodians[0] = "a" }},
		{api.ErrOrder, func() { s.Kinds = []int{2, 1} }},
		{api.ErrArg, func() { s.Kinds = nil }},
		{api.ErrName, func() { s.Days = 5 }},
	} {
		step.mend()
		l := []api.Schedule{{Key: "b"}, s, {}}
		if large {
			l = append(manySchedules(api.MaxSchedules), s)
		}
		is(t, hold.CheckSchedules(l), step.e)
	}
}

// thread is a family of three, whose last moment is that of c, and another letter.
func thread() []api.Item {
	return []api.Item{
		item("a", "ann", "c2"), at(kind(item("b", "bob", "c2"), api.ItemFile), 50), at(item("c2", "ann", ""), 700), at(item("d", "dan", ""), api.End-1),
	}
}

// P5.2
func TestUntil(t *testing.T) {
	const day = api.DayLong
	for _, c := range []struct {
		s     []api.Schedule
		id    string
		until int
		key   string
	}{
		{[]api.Schedule{{Key: "s", Days: 10}}, "a", 100 + 10*day, "s"},
		{[]api.Schedule{{Key: "s", Days: 10}}, "b", 50 + 10*day, "s"},
		{[]api.Schedule{{Key: "s", Days: 10, Last: true}}, "a", 700 + 10*day, "s"},
		{[]api.Schedule{{Key: "s", Days: 10, Last: true}}, "c2", 700 + 10*day, "s"},
		{[]api.Schedule{{Key: "s", Last: true}}, "b", 700, "s"},
		{[]api.Schedule{{Key: "s"}}, "b", 50, "s"},
		{[]api.Schedule{{Key: "s"}}, "d", api.End - 1, "s"},
		{[]api.Schedule{{Key: "s", Days: 1}}, "d", api.End, "s"},
		{[]api.Schedule{{Key: "s", Days: api.MaxDay}}, "a", 100 + api.MaxDay*day, "s"},
		{[]api.Schedule{{Key: "s", Days: api.MaxDay}}, "d", api.End, "s"},
		{[]api.Schedule{{Key: "s", Days: 1}, {Key: "t", Days: 2}}, "a", 100 + 2*day, "t"},
		{[]api.Schedule{{Key: "s", Days: 2}, {Key: "t", Days: 1}}, "a", 100 + 2*day, "s"},
		{[]api.Schedule{{Key: "s", Days: 2}, {Key: "t", Days: 2}}, "a", 100 + 2*day, "s"},
		{[]api.Schedule{{Key: "s", Days: 1}, {Key: "t", Days: 1, Last: true}}, "a", 700 + day, "t"},
		{[]api.Schedule{{Key: "s", Days: 1}, {Key: "t", Days: 1, Last: true}}, "c2", 700 + day, "s"},
		{[]api.Schedule{{Key: "s", Days: 1}, {Key: "t", Days: 2}}, "d", api.End, "s"}, // both are at the bound
		{[]api.Schedule{{Key: "s", Custodians: words("bob")}, {Key: "t", Days: 1}, {Key: "u", Kinds: []int{2}, Days: 9}}, "a", 100 + day, "t"},
		{[]api.Schedule{{Key: "s", Custodians: words("ann"), Kinds: []int{2}, Days: 3}, {Key: "t", Custodians: words("ann cid"), Kinds: []int{1, 4}, Days: 2}, {Key: "u"}}, "a", 100 + 2*day, "t"},
	} {
		until, key, e := hold.Until(c.s, thread(), c.id)
		if until != c.until || key != c.key || e != api.OK {
			t.Errorf("%+v of %s: %d by %q, %d", c.s, c.id, until, key, e)
		}
	}
}

// P5.2
func TestUntilErrors(t *testing.T) {
	keep := []api.Schedule{{Key: "s", Custodians: words("ann"), Days: 3}, {Key: "t", Kinds: []int{3}}}
	for _, c := range []struct {
		id string
		e  api.Errno
	}{
		{"", api.ErrNone}, {"c", api.ErrNone}, {"z", api.ErrNone}, {"b", api.ErrRule}, {"d", api.ErrRule},
	} {
		until, key, e := hold.Until(keep, thread(), c.id)
		fails(t, e, c.e, until, key)
	}
	until, key, e := hold.Until(nil, thread(), "a")
	fails(t, e, api.ErrRule, until, key)
	until, key, e = hold.Until(keep, nil, "a")
	fails(t, e, api.ErrNone, until, key)
	eachBadSchedules(t, func(l []api.Schedule) (api.Errno, []any) {
		until, key, e := hold.Until(l, make([]api.Item, 1), "?")
		return e, []any{until, key}
	})
	eachBadList(t, func(l []api.Item) (api.Errno, []any) {
		until, key, e := hold.Until(keep, l, "?")
		return e, []any{until, key}
	})
}

// P5.2: all is as the document says, word by word.
func TestUntilRandom(t *testing.T) {
	r := rand.New(rand.NewPCG(5, 2))
	for range 3_000 {
		s, l := randomSchedules(r, 4), randomItems(r, 6)
		for _, x := range l {
			until, key := untilOf(s, l, x)
			gotUntil, gotKey, e := hold.Until(s, l, x.Id)
			want := api.OK
			if key == "" {
				want = api.ErrRule
			}
			is(t, []any{gotUntil, gotKey, e}, []any{until, key, want})
		}
	}
}

// Z2
func TestUntilKeeps(t *testing.T) {
	keepsSchedules(t, func(s []api.Schedule) {
		keepsItems(t, func(l []api.Item) {
			is(t, hold.CheckSchedules(s), api.OK)
			until, key, e := hold.Until(s, l, "b")
			is(t, []any{until, key, e}, []any{100 + 3*api.DayLong, "one", api.OK})
		})
	})
}
