package hold_test

import (
	"math"
	"math/rand/v2"
	"slices"
	"testing"

	"paperchase/api"
	"paperchase/hold"
	"paperchase/intake"
)

func held(key string) api.Fate     { return api.Fate{Why: api.FateHeld, Key: key} }
func withHeld(key string) api.Fate { return api.Fate{Why: api.FateWithHeld, Key: key} }
func kept(key string) api.Fate     { return api.Fate{Why: api.FateKept, Key: key} }
func none() api.Fate               { return api.Fate{Why: api.FateNone} }
func over(key string) api.Fate     { return api.Fate{May: true, Why: api.FateOver, Key: key} }

var ten = []api.Schedule{{Key: "ten", Days: 10}}

// P5.3: the example.
func TestFatesExample(t *testing.T) {
	l := []api.Item{item("a", "ann", ""), item("b", "bob", "")}
	h := []api.Hold{of(whole("case", 0), "ann")}
	for _, c := range []struct {
		at   int
		want api.Fate
	}{
		{0, kept("ten")}, {100, kept("ten")}, {14_499, kept("ten")}, {14_500, over("ten")}, {api.End - 1, over("ten")},
	} {
		fates, e := hold.Fates(ten, h, l, c.at)
		gives(t, fates, e, []api.Fate{held("case"), c.want})
	}
}

// folders is two families: c with a and, in it, b; e with d.
func folders() []api.Item {
	return []api.Item{
		item("a", "ann", "c"), item("b", "bob", "a"), item("c", "cid", ""), item("d", "dan", "e"), item("e", "eve", ""),
	}
}

// P5.3: the first reason that applies, with the key of the first one in the order of the family.
func TestFates(t *testing.T) {
	each := func(days ...int) []api.Schedule {
		var s []api.Schedule
		for i, who := range words("ann bob cid dan eve") {
			if days[i] >= 0 {
				s = append(s, api.Schedule{Key: "for-" + who, Custodians: []string{who}, Days: days[i]})
			}
		}
		return s
	}
	allOver := []api.Fate{over("for-ann"), over("for-bob"), over("for-cid"), over("for-dan"), over("for-eve")}
	same := func(f api.Fate, rest ...api.Fate) []api.Fate { return append([]api.Fate{f, f, f}, rest...) }
	hold1 := func(who string) []api.Hold { return []api.Hold{of(whole("one", 0), who)} }
	for _, c := range []struct {
		s    []api.Schedule
		h    []api.Hold
		want []api.Fate
	}{
		{nil, nil, []api.Fate{none(), none(), none(), none(), none()}},
		{each(0, 0, 0, 0, 0), nil, allOver},
		{each(0, 0, 0, 0, 1), nil, append(slices.Clone(allOver[:3]), kept("for-eve"), kept("for-eve"))},
		{each(0, 0, 0, 2, 1), nil, append(slices.Clone(allOver[:3]), kept("for-eve"), kept("for-eve"))},
		{each(1, 1, 0, 0, 0), nil, same(kept("for-ann"), allOver[3:]...)},
		{each(1, 1, 1, 0, 0), nil, same(kept("for-cid"), allOver[3:]...)},
		{each(0, 1, 0, 0, 0), nil, same(kept("for-bob"), allOver[3:]...)},
		{each(0, 1, -1, 0, 0), nil, same(kept("for-bob"), allOver[3:]...)}, // before what has no schedule
		{each(0, 0, -1, 0, 0), nil, same(none(), allOver[3:]...)},
		{each(0, -1, 0, 0, 0), nil, same(none(), allOver[3:]...)},
		{each(0, 1, -1, 0, 0), hold1("bob"), append([]api.Fate{withHeld("one"), held("one"), withHeld("one")}, allOver[3:]...)},
		{nil, hold1("dan"), same(none(), held("one"), withHeld("one"))},
		{each(0, 0, 0, 0, 0), hold1("dan eve"), append(slices.Clone(allOver[:3]), held("one"), held("one"))},
		{ten, []api.Hold{of(whole("one", 0), "bob"), of(whole("two", 0), "ann"), of(whole("zed", 0), "ann bob")}, []api.Fate{held("two"), held("one"), withHeld("two"), kept("ten"), kept("ten")}},
		{ten, []api.Hold{of(whole("one", 200), "bob"), of(released(whole("two", 0), 150), "ann"), of(whole("zed", 150), "bob eve")}, []api.Fate{withHeld("zed"), held("zed"), withHeld("zed"), withHeld("zed"), held("zed")}},
		{each(0, 0, 0, 0, 0), []api.Hold{whole("one", 151), released(whole("two", 0), 150)}, allOver},
	} {
		fates, e := hold.Fates(c.s, c.h, folders(), 150)
		gives(t, fates, e, c.want)
	}
}

// P5.3
func TestDestroy(t *testing.T) {
	s := []api.Schedule{{Key: "few", Days: 1}, {Key: "more", Custodians: words("dan"), Days: 2}}
	h := []api.Hold{of(released(whole("case", 0), 5000), "ann")}
	for _, c := range []struct {
		at         int
		left, gone string
	}{
		{0, "a b c d e", ""},
		{2 * api.DayLong, "a b c d e", ""},
		{2*api.DayLong + 99, "a b c d e", ""},
		{2*api.DayLong + 100, "a b c", "d e"},
		{4999, "a b c", "d e"},
		{5000, "", "a b c d e"},
	} {
		left, gone, e := hold.Destroy(s, h, folders(), c.at)
		gives(t, gone, e, words(c.gone))
		is(t, idsOf(left), words(c.left))
		is(t, intake.Check(left), api.OK)
	}
	left, gone, e := hold.Destroy(s, h, nil, 0)
	is(t, []any{len(left), len(gone), e}, []any{0, 0, api.OK})
}

func idsOf(l []api.Item) []string {
	var ids []string
	for _, x := range l {
		ids = append(ids, x.Id)
	}
	return ids
}

// P5.3
func TestNext(t *testing.T) {
	const day = api.DayLong
	one := api.Schedule{Key: "one", Days: 1}
	for _, c := range []struct {
		s    []api.Schedule
		h    []api.Hold
		id   string
		at   int
		want int
	}{
		{[]api.Schedule{one}, nil, "a", 0, 100 + day},
		{[]api.Schedule{one}, nil, "a", 99 + day, 100 + day},
		{[]api.Schedule{one}, nil, "a", 100 + day, 100 + day},
		{[]api.Schedule{one}, nil, "a", 101 + day, 101 + day},
		{[]api.Schedule{one}, nil, "a", api.End - 1, api.End - 1},
		{[]api.Schedule{one, {Key: "two", Custodians: words("bob"), Days: 2}}, nil, "a", 0, 100 + 2*day},
		{[]api.Schedule{one, {Key: "two", Custodians: words("bob"), Days: 2}}, nil, "e", 0, 100 + day},
		// A hold that is not open yet holds nothing yet, one that is released nothing more.
		{[]api.Schedule{one}, []api.Hold{whole("late", 5000)}, "a", 0, 100 + day},
		{[]api.Schedule{one}, []api.Hold{whole("late", 5000)}, "a", 4999, 4999},
		{[]api.Schedule{one}, []api.Hold{released(whole("past", 0), 100)}, "a", 0, 100 + day},
		{[]api.Schedule{one}, []api.Hold{released(whole("past", 0), 5000)}, "a", 0, 5000},
		{[]api.Schedule{one}, []api.Hold{released(whole("past", 0), 5000)}, "a", 6000, 6000},
		{[]api.Schedule{one}, []api.Hold{released(whole("past", 0), api.End-1)}, "a", 0, api.End - 1},
		// One after the other, with a moment between or none.
		{[]api.Schedule{one}, []api.Hold{released(whole("a", 5000), 6000), released(whole("b", 0), 5000), released(whole("c", 5500), 7000)}, "a", 0, 7000},
		{[]api.Schedule{one}, []api.Hold{released(whole("a", 5001), 6000), released(whole("b", 0), 5000), released(whole("c", 5500), 7000)}, "a", 0, 5000},
		{[]api.Schedule{one}, []api.Hold{released(whole("a", 5001), 6000), released(whole("b", 0), 5000), released(whole("c", 5500), 7000)}, "a", 5001, 7000},
		{[]api.Schedule{one}, []api.Hold{of(whole("a", 0), "ann")}, "e", 0, 100 + day},
		{[]api.Schedule{one}, []api.Hold{of(released(whole("a", 0), 5000), "bob")}, "c", 0, 5000},
	} {
		got, e := hold.Next(c.s, c.h, folders(), c.id, c.at)
		if got != c.want || e != api.OK {
			t.Errorf("%+v, %+v, %s from %d: %d, %d", c.s, c.h, c.id, c.at, got, e)
		}
		fates, _ := hold.Fates(c.s, c.h, folders(), got)
		is(t, fates[c.id[0]-'a'].Why, api.FateOver)
	}
}

// P5.3
func TestNextErrors(t *testing.T) {
	for _, c := range []struct {
		e  api.Errno
		s  []api.Schedule
		h  []api.Hold
		id string
		at int
	}{
		{api.ErrNone, ten, nil, "", -1},
		{api.ErrNone, nil, nil, "f", 0},
		{api.ErrArg, nil, nil, "a", -1},
		{api.ErrArg, ten, nil, "a", api.End},
		{api.ErrArg, ten, nil, "a", math.MaxInt},
		{api.ErrArg, ten, nil, "a", math.MinInt},
		{api.ErrRule, nil, nil, "a", 0},
		{api.ErrRule, []api.Schedule{{Key: "s", Custodians: words("ann bob")}}, nil, "a", 0},
		{api.ErrRule, ten, []api.Hold{whole("case", 0)}, "a", 0},
		{api.ErrRule, ten, []api.Hold{of(whole("case", 0), "cid")}, "a", 0},
		{api.ErrRule, ten, []api.Hold{whole("case", 15_000)}, "a", 15_000},
		{api.ErrRule, ten, []api.Hold{whole("case", 15_000), released(whole("deal", 0), 15_001)}, "a", 0},
	} {
		got, e := hold.Next(c.s, c.h, folders(), c.id, c.at)
		fails(t, e, c.e, got)
	}
	late := []api.Item{at(item("a", "ann", ""), api.End-1)}
	got, e := hold.Next([]api.Schedule{{Key: "s"}}, nil, late, "a", 0)
	gives(t, got, e, api.End-1)
	got, e = hold.Next([]api.Schedule{{Key: "s", Days: 1}}, nil, late, "a", 0)
	fails(t, e, api.ErrRule, got)
}

// P5.3: the errors that all three have, in their order.
func TestFatesErrors(t *testing.T) {
	call := func(s []api.Schedule, h []api.Hold, l []api.Item, at int) (api.Errno, []any) {
		fates, e := hold.Fates(s, h, l, at)
		left, gone, e2 := hold.Destroy(s, h, l, at)
		next, e3 := hold.Next(s, h, l, "a", at)
		is(t, []api.Errno{e2, e3}, []api.Errno{e, e})
		return e, []any{fates, left, gone, next}
	}
	eachBadSchedules(t, func(s []api.Schedule) (api.Errno, []any) {
		return call(s, make([]api.Hold, 1), make([]api.Item, 1), -1)
	})
	eachBadHolds(t, func(h []api.Hold) (api.Errno, []any) { return call(ten, h, make([]api.Item, 1), -1) })
	eachBadList(t, func(l []api.Item) (api.Errno, []any) { return call(ten, holds(), l, -1) })
	for _, at := range []int{-1, api.End, math.MinInt, math.MaxInt} {
		e, results := call(ten, holds(), folders(), at)
		fails(t, e, api.ErrArg, results...)
	}
}

// Z2
func TestFatesAreNew(t *testing.T) {
	keepsSchedules(t, func(s []api.Schedule) {
		keepsHolds(t, func(h []api.Hold) {
			keepsItems(t, func(l []api.Item) {
				hold.Fates(s, h, l, 5)
				hold.Next(s, h, l, "a", 5)
				left, _, e := hold.Destroy(s, h, l, 5)
				gives(t, left, e, l)
				left[0].Id = "x"
				_ = append(left, api.Item{})
			})
		})
	})
}

// fateOf is what the document says of a fate, word by word.
func fateOf(s []api.Schedule, h []api.Hold, l []api.Item, x api.Item, at int) api.Fate {
	if keys := holders(h, x, at); len(keys) > 0 {
		return held(keys[0])
	}
	members := family(l, x)
	for _, y := range members {
		if keys := holders(h, y, at); len(keys) > 0 {
			return withHeld(keys[0])
		}
	}
	for _, y := range members {
		if until, key := untilOf(s, l, y); until > at {
			return kept(key)
		}
	}
	for _, y := range members {
		if _, key := untilOf(s, l, y); key == "" {
			return none()
		}
	}
	_, key := untilOf(s, l, x)
	return over(key)
}

// P5.3: all is as the document says, and what it says that follows.
func TestFatesRandom(t *testing.T) {
	r := rand.New(rand.NewPCG(5, 3))
	many := map[int]int{}
	for range 3_000 {
		s, h, l, at := randomSchedules(r, 3), randomHolds(r, 2), randomItems(r, 7), randomMoment(r)
		var want []api.Fate
		for _, x := range l {
			want = append(want, fateOf(s, h, l, x, at))
		}
		fates, e := hold.Fates(s, h, l, at)
		gives(t, fates, e, want)
		var left []api.Item
		var gone []string
		for i, f := range want {
			many[f.Why]++
			if f.Why == api.FateOver {
				gone = append(gone, l[i].Id)
			} else {
				left = append(left, l[i])
			}
		}
		gotLeft, gotGone, e := hold.Destroy(s, h, l, at)
		gives(t, gotGone, e, gone)
		is(t, gotLeft, left)
		whole, e := intake.Whole(l, gone)
		slices.Sort(whole)
		gives(t, whole, e, gone)
		again, none, e := hold.Destroy(s, h, left, at)
		is(t, []any{len(again), len(none), e}, []any{len(left), 0, api.OK})
		lessIsGone(t, r, s, h, l, at)
	}
	for why := api.FateOver; why <= api.FateWithHeld; why++ {
		if many[why] < 100 {
			t.Errorf("only %d fates %d", many[why], why)
		}
	}
}

// lessIsGone checks that with a hold more, or a schedule more of items that have one, nothing more is gone.
func lessIsGone(t *testing.T, r *rand.Rand, s []api.Schedule, h []api.Hold, l []api.Item, at int) {
	t.Helper()
	before, _ := hold.Fates(s, h, l, at)
	for _, x := range randomHolds(r, 1) {
		x.Key = "more"
		after, e := hold.Fates(s, append(h, x), l, at)
		is(t, e, api.OK)
		for i, f := range after {
			is(t, f.May && !before[i].May, false)
		}
	}
	for _, x := range randomSchedules(r, 1) {
		x.Key = "tomore"
		after, e := hold.Fates(append(s, x), h, l, at)
		is(t, e, api.OK)
		for i, f := range after {
			is(t, f.May && !before[i].May && before[i].Why != api.FateNone, false)
		}
	}
}

// P5.3: Next is the least moment with FateOver; fates change only at few moments.
func TestNextRandom(t *testing.T) {
	r := rand.New(rand.NewPCG(5, 4))
	found := 0
	for range 2_000 {
		s, h, l, at := randomSchedules(r, 3), randomHolds(r, 4), randomItems(r, 4), randomMoment(r)
		moments := []int{at}
		for _, x := range h {
			moments = append(moments, x.At, x.Released)
		}
		for _, x := range l {
			until, _ := untilOf(s, l, x)
			moments = append(moments, until)
		}
		slices.Sort(moments)
		for _, x := range l {
			i := slices.IndexFunc(moments, func(m int) bool {
				return m >= at && m < api.End && fateOf(s, h, l, x, m).Why == api.FateOver
			})
			got, e := hold.Next(s, h, l, x.Id, at)
			if i < 0 {
				fails(t, e, api.ErrRule, got)
				continue
			}
			gives(t, got, e, moments[i])
			found++
		}
	}
	if found < 500 {
		t.Errorf("only %d moments", found)
	}
}
