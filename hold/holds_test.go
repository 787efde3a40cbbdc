package hold_test

import (
	"math"
	"slices"
	"strings"
	"testing"

	"paperchase/api"
	"paperchase/hold"
)

// P5.1
func TestCheck(t *testing.T) {
	h := whole("case", 5)
	most := of(h, strings.Join(names(api.MaxPeople), " "))
	last := within(released(whole("z"+strings.Repeat("k", api.MaxName-1), api.End-1), api.End-1), api.End, api.End)
	for _, l := range [][]api.Hold{
		nil, holds(), manyHolds(api.MaxHolds), {most, last}, {released(h, 5)}, {released(h, api.End-1)}, {kinds(h, 1, 2, 3, 4)},
		{within(h, 0, 0)}, {within(h, 7, 7)}, {searching(h, " a\nand (b)")}, {{Key: "a", Released: -1}},
	} {
		is(t, hold.Check(l), api.OK)
	}
	eachBadHolds(t, func(l []api.Hold) (api.Errno, []any) { return hold.Check(l), nil })
	for _, c := range []struct {
		e api.Errno
		h api.Hold
	}{
		{api.ErrName, whole("", 0)},
		{api.ErrName, whole("9a", 0)},
		{api.ErrName, whole(strings.Repeat("k", api.MaxName+1), 0)},
		{api.ErrArg, whole("case", math.MinInt)},
		{api.ErrArg, whole("case", math.MaxInt)},
		{api.ErrArg, released(h, -2)},
		{api.ErrArg, released(whole("case", 0), -2)},
		{api.ErrArg, released(h, 0)},
		{api.ErrArg, released(h, api.End)},
		{api.ErrArg, released(h, math.MinInt)},
		{api.ErrName, of(h, "ann ä")},
		{api.ErrOrder, of(h, "ann ann")},
		{api.ErrName, of(h, "bob Ann ann")},
		{api.ErrOrder, of(h, "bob ann Ann")},
		{api.ErrKind, kinds(h, 1, 5)},
		{api.ErrKind, kinds(h, -1)},
		{api.ErrOrder, kinds(h, 3, 3)},
		{api.ErrArg, within(h, -1, 5)},
		{api.ErrArg, within(h, 0, api.End+1)},
		{api.ErrArg, within(h, api.End+1, api.End+1)},
		{api.ErrArg, within(h, 0, -1)},
		{api.ErrSyntax, searching(h, " ")},
		{api.ErrSyntax, searching(h, "deal and")},
		{api.ErrSyntax, searching(h, "from:5000")},                           // ErrArg of Parse
		{api.ErrSyntax, searching(h, strings.Repeat("not ", 13)+"a")},        // ErrLarge of Parse
		{api.ErrSyntax, searching(h, strings.Repeat("a", api.MaxText+1))},    // likewise
		{api.ErrSyntax, searching(h, "\"and\"")},                             // ErrName of Parse
		{api.ErrSyntax, searching(h, "(a and b) w/3 c")},                     // ErrType of Parse
		{api.ErrSyntax, searching(h, strings.Repeat("a or ", 99)+"\tdeals")}, // not even its form
	} {
		is(t, hold.Check([]api.Hold{c.h}), c.e)
		is(t, hold.Check([]api.Hold{whole("a", 0), c.h}), c.e)
	}
}

// P5.1: of several errors the first one of the list, hold by hold.
func TestCheckOrder(t *testing.T) {
	h := api.Hold{Key: "A", At: -1, Released: -2, Custodians: names(api.MaxPeople + 1), Kinds: []int{0}, Window: api.Window{From: 3, To: 2}, Query: "("}
	h.Custodians[0], h.Custodians[1] = "B", "B"
	large := false
	for _, s := range []step{
		{api.ErrLarge, func() { large = true }},
		{api.ErrName, func() { large = false }},
		{api.ErrOrder, func() { h.Key = "a" }},
		{api.ErrArg, func() { h.Key = "c" }},
		{api.ErrArg, func() { h.At = 7 }},
		{api.ErrArg, func() { h.Released = 6 }},
		{api.ErrLarge, func() { h.Released = 7 }},
		{api.ErrName, func() { h.Custodians = h.Custodians[:2] }},
		{api.ErrName, func() { h.Custodians[0] = "b" }},
		{api.ErrOrder, func() { h.Custodians[1] = "a" }},
		{api.ErrKind, func() { h.Custodians[1] = "c" }},
		{api.ErrOrder, func() { h.Kinds = []int{2, 1} }},
		{api.ErrArg, func() { h.Kinds = []int{1, 2} }},
		{api.ErrSyntax, func() { h.Window.To = 3 }},
		{api.ErrName, func() { h.Query = "a" }},
	} {
		s.mend()
		l := []api.Hold{whole("b", 0), h, {}}
		if large {
			l = append(manyHolds(api.MaxHolds), h)
		}
		is(t, hold.Check(l), s.e)
	}
}

// P5.4
func TestRelease(t *testing.T) {
	for _, c := range []struct {
		key string
		at  int
		e   api.Errno
	}{
		{"case", 50, api.OK},
		{"case", api.End - 1, api.OK},
		{"rest", 10, api.OK},
		{"", -1, api.ErrNone},
		{"cas", 50, api.ErrNone},
		{"zz", 50, api.ErrNone},
		{"deal", -1, api.ErrState},
		{"deal", 1000, api.ErrState},
		{"case", 49, api.ErrArg},
		{"case", api.End, api.ErrArg},
		{"rest", -1, api.ErrArg},
		{"rest", math.MaxInt, api.ErrArg},
		{"rest", math.MinInt, api.ErrArg},
	} {
		l, e := hold.Release(holds(), c.key, c.at)
		if c.e != api.OK {
			fails(t, e, c.e, l)
			continue
		}
		want := holds()
		for i := range want {
			if want[i].Key == c.key {
				want[i].Released = c.at
			}
		}
		gives(t, l, e, want)
		is(t, hold.Check(l), api.OK)
		l, e = hold.Release(l, c.key, c.at)
		fails(t, e, api.ErrState, l)
	}
	l, e := hold.Release(nil, "case", 5)
	fails(t, e, api.ErrNone, l)
	eachBadHolds(t, func(l []api.Hold) (api.Errno, []any) {
		got, e := hold.Release(l, "?", -1)
		return e, []any{got}
	})
}

// Z2
func TestReleaseIsNew(t *testing.T) {
	keepsHolds(t, func(l []api.Hold) {
		before := slices.Clone(l)
		got, _ := hold.Release(l, "case", 60)
		got[0].Custodians[0], got[0].Custodians = "x", append(got[0].Custodians, "y")
		got[1].Kinds[0], got[1].Kinds = 9, append(got[1].Kinds, 9)
		got[2].Key = "x"
		got = append(got, whole("y", 1))
		is(t, l, before)
	})
}
