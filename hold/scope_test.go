package hold_test

import (
	"math"
	"math/rand/v2"
	"slices"
	"testing"

	"paperchase/api"
	"paperchase/hold"
)

// P5.1
func TestInScope(t *testing.T) {
	x := kind(at(item("a", "ann", ""), 100), api.ItemFile)
	h := whole("case", 5)
	for _, c := range []struct {
		h    api.Hold
		x    api.Item
		want bool
	}{
		{h, x, true},
		{whole("case", api.End-1), x, true}, // whether it is open does not count
		{released(h, 6), x, true},
		{of(h, "ann"), x, true},
		{of(h, "aaa ann bob"), x, true},
		{of(h, "aaa bob"), x, false},
		{kinds(h, api.ItemFile), x, true},
		{kinds(h, 1, 2, 3), x, true},
		{kinds(h, 1, 3, 4), x, false},
		{within(h, 100, 101), x, true},
		{within(h, 0, 100), x, false},
		{within(h, 101, api.End), x, false},
		{within(h, 100, 100), x, false},
		{h, at(x, api.End-1), true},
		{within(h, 0, api.End-1), at(x, api.End-1), false},
		{within(h, 0, 1), at(x, 0), true},
		{searching(h, "DEAL"), x, true},
		{searching(h, "deals"), x, false},
		{searching(h, "\"a deal\" and owner:ann and kind:file"), x, true},
		{searching(h, "not deal"), x, false},
		{searching(h, "all"), text(x, ""), true},
		{searching(h, "deal"), item("a", "ann", "far"), true}, // its parent need not be there
		{searching(kinds(of(within(h, 100, 101), "ann"), 2), "deal"), x, true},
		{searching(kinds(of(within(h, 100, 101), "ann"), 2), "no"), x, false},
		{searching(kinds(of(within(h, 100, 101), "ann"), 1), "deal"), x, false},
		{searching(kinds(of(within(h, 100, 101), "bob"), 2), "deal"), x, false},
		{searching(kinds(of(within(h, 99, 100), "ann"), 2), "deal"), x, false},
	} {
		got, e := hold.InScope(c.h, c.x)
		if got != c.want || e != api.OK {
			t.Errorf("%+v, %+v: %v, %d", c.h, c.x, got, e)
		}
	}
	eachBadHold(t, func(h api.Hold) (api.Errno, []any) {
		got, e := hold.InScope(h, api.Item{})
		return e, []any{got}
	})
	eachBadItem(t, func(x api.Item) (api.Errno, []any) {
		got, e := hold.InScope(h, x)
		return e, []any{got}
	})
}

// P5.1: a hold is open from At on, before Released.
func TestHeld(t *testing.T) {
	l := []api.Hold{released(whole("a", 0), 0), whole("b", 10), released(whole("c", 10), 20), of(whole("d", 0), "bob"), released(searching(whole("e", 20), "deal"), 21)}
	for _, c := range []struct {
		at   int
		want string
	}{
		{0, ""}, {9, ""}, {10, "b c"}, {19, "b c"}, {20, "b e"}, {21, "b"}, {api.End - 1, "b"},
	} {
		got, e := hold.Held(l, item("a", "ann", "far"), c.at)
		gives(t, got, e, words(c.want))
	}
	got, e := hold.Held(nil, item("a", "ann", ""), 5)
	gives(t, got, e, []string{})
	for _, bad := range []int{-1, api.End, math.MinInt, math.MaxInt} {
		got, e := hold.Held(l, item("a", "ann", ""), bad)
		fails(t, e, api.ErrArg, got)
	}
	eachBadHolds(t, func(l []api.Hold) (api.Errno, []any) {
		got, e := hold.Held(l, api.Item{}, -1)
		return e, []any{got}
	})
	eachBadItem(t, func(x api.Item) (api.Errno, []any) {
		got, e := hold.Held(l, x, -1)
		return e, []any{got}
	})
	keepsHolds(t, func(l []api.Hold) { hold.Held(l, item("a", "ann", ""), 100) })
}

func letters() []api.Item {
	return []api.Item{
		item("a", "dan", ""), text(item("b", "bob", "a"), "No\n"), item("c", "ann", ""), kind(item("d", "dan", "c"), api.ItemNote), at(item("e", "eve", ""), 7),
	}
}

// P5.1
func TestScope(t *testing.T) {
	h := whole("case", 5)
	for _, c := range []struct {
		h           api.Hold
		ids, people string
	}{
		{h, "a b c d e", "ann bob dan eve"},
		{searching(h, "deal"), "a c d e", "ann dan eve"},
		{searching(h, "no"), "b", "bob"},
		{searching(h, "nobody"), "", ""},
		{kinds(h, api.ItemNote), "d", "dan"},
		{within(h, 8, api.End), "a b c d", "ann bob dan"},
		{released(whole("case", 5), 5), "a b c d e", "ann bob dan eve"},
		{of(h, "aaa dan zed"), "a d", "aaa dan zed"},
		{searching(of(h, "ann bob fay"), "no"), "b", "ann bob fay"},
		{within(of(h, "zed"), 0, 0), "", "zed"},
	} {
		ids, e := hold.Scope(c.h, letters())
		gives(t, ids, e, words(c.ids))
		people, e := hold.Custodians(c.h, letters())
		is(t, e, api.OK)
		is(t, people, words(c.people))
	}
	ids, e := hold.Scope(h, nil)
	gives(t, ids, e, []string{})
	people, e := hold.Custodians(h, nil)
	gives(t, people, e, []string{})
}

// P5.1
func TestScopeErrors(t *testing.T) {
	eachBadHold(t, func(h api.Hold) (api.Errno, []any) {
		ids, e := hold.Scope(h, make([]api.Item, 1))
		people, other := hold.Custodians(h, make([]api.Item, 1))
		is(t, e, other)
		return e, []any{ids, people}
	})
	eachBadList(t, func(l []api.Item) (api.Errno, []any) {
		ids, e := hold.Scope(whole("case", 5), l)
		people, other := hold.Custodians(whole("case", 5), l)
		is(t, e, other)
		return e, []any{ids, people}
	})
}

// Z2
func TestScopeIsNew(t *testing.T) {
	keepsHolds(t, func(l []api.Hold) {
		keepsItems(t, func(items []api.Item) {
			hold.Scope(l[0], items)
			people, _ := hold.Custodians(l[0], items)
			is(t, people, words("ann bob"))
			people[0] = "x"
			_ = append(people[:2], "y")
			hold.InScope(l[1], items[0])
			hold.Alone(l, items, "case", 100)
		})
	})
}

// P5.1
func TestAlone(t *testing.T) {
	l := []api.Hold{of(whole("a", 10), "ann dan"), searching(released(whole("b", 20), 30), "no or kind:note"), of(whole("c", 20), "bob")}
	for _, c := range []struct {
		key  string
		at   int
		want string
	}{
		{"a", 9, ""},
		{"a", 10, "a c d"},
		{"a", 19, "a c d"},
		{"a", 20, "a c"},
		{"a", 30, "a c d"},
		{"b", 19, ""},
		{"b", 20, ""},
		{"b", 30, ""},
		{"c", 19, ""},
		{"c", 20, ""},
		{"c", 29, ""},
		{"c", 30, "b"},
		{"c", api.End - 1, "b"},
	} {
		got, e := hold.Alone(l, letters(), c.key, c.at)
		gives(t, got, e, words(c.want))
	}
	for _, c := range []struct {
		key string
		at  int
		e   api.Errno
	}{
		{"", 5, api.ErrNone}, {"ab", -1, api.ErrNone}, {"d", api.End, api.ErrNone}, {"a", -1, api.ErrArg}, {"b", api.End, api.ErrArg}, {"c", math.MaxInt, api.ErrArg},
	} {
		got, e := hold.Alone(l, letters(), c.key, c.at)
		fails(t, e, c.e, got)
	}
	eachBadHolds(t, func(l []api.Hold) (api.Errno, []any) {
		got, e := hold.Alone(l, make([]api.Item, 1), "?", -1)
		return e, []any{got}
	})
	eachBadList(t, func(items []api.Item) (api.Errno, []any) {
		got, e := hold.Alone(l, items, "?", -1)
		return e, []any{got}
	})
}

// P5.1: all that is asked of scopes is as the document says, word by word.
func TestScopesRandom(t *testing.T) {
	r := rand.New(rand.NewPCG(5, 1))
	alone := 0
	for range 3_000 {
		l, items, moment := randomHolds(r, 4), randomItems(r, 6), randomMoment(r)
		is(t, hold.Check(l), api.OK)
		only := map[string][]string{}
		for _, x := range items {
			want := holders(l, x, moment)
			got, e := hold.Held(l, x, moment)
			gives(t, got, e, want)
			if len(want) == 1 {
				only[want[0]] = append(only[want[0]], x.Id)
			}
		}
		for _, h := range l {
			var ids []string
			people := slices.Clone(h.Custodians)
			for _, x := range items {
				in, e := hold.InScope(h, x)
				gives(t, in, e, inScope(h, x))
				if in {
					ids = append(ids, x.Id)
					people = append(people, x.Custodian)
				}
			}
			slices.Sort(people)
			got, _ := hold.Scope(h, items)
			is(t, got, ids)
			got, _ = hold.Custodians(h, items)
			is(t, got, slices.Compact(people))
			got, e := hold.Alone(l, items, h.Key, moment)
			gives(t, got, e, only[h.Key])
			alone += len(got)
		}
	}
	if alone < 1_000 {
		t.Errorf("only %d items were alone", alone)
	}
}
