package intake_test

import (
	"math"
	"slices"
	"testing"

	"paperchase/api"
	"paperchase/intake"
)

func people(many int) []string {
	var l []string
	for i := range many {
		l = append(l, name("p", i))
	}
	return l
}

func sums(many int) []string {
	var l []string
	for i := range many {
		l = append(l, intake.Digest(name("s", i)))
	}
	slices.Sort(l)
	return l
}

func all() api.Window { return api.Window{From: 0, To: api.End} }

// P1.5
func TestCheckFilterAccepts(t *testing.T) {
	for _, f := range []api.Filter{
		{},
		{Kinds: []int{1, 2, 3, 4}, Custodians: people(api.MaxPeople), Window: all(), Known: sums(api.MaxSums)},
		{Window: api.Window{From: api.End, To: api.End}},
		{Known: []string{"0000000000000000", "0123456789abcdef", "ffffffffffffffff"}},
	} {
		is(t, intake.CheckFilter(f), api.OK)
	}
}

// P1.5
func TestCheckFilterRefuses(t *testing.T) {
	sum := "0123456789abcdef"
	for _, c := range []struct {
		e api.Errno
		f api.Filter
	}{
		{api.ErrKind, api.Filter{Kinds: []int{0}}},
		{api.ErrKind, api.Filter{Kinds: []int{5}}},
		{api.ErrKind, api.Filter{Kinds: []int{1, math.MaxInt}}},
		{api.ErrKind, api.Filter{Kinds: []int{2, 0}}},
		{api.ErrOrder, api.Filter{Kinds: []int{2, 1}}},
		{api.ErrOrder, api.Filter{Kinds: []int{2, 2, 0}}},
		{api.ErrLarge, api.Filter{Custodians: people(api.MaxPeople + 1)}},
		{api.ErrName, api.Filter{Custodians: []string{""}}},
		{api.ErrName, api.Filter{Custodians: []string{"ann", "Ann"}}},
		{api.ErrOrder, api.Filter{Custodians: []string{"bob", "ann", "?"}}},
		{api.ErrOrder, api.Filter{Custodians: []string{"ann", "ann"}}},
		{api.ErrArg, api.Filter{Window: api.Window{From: -1}}},
		{api.ErrArg, api.Filter{Window: api.Window{From: 2, To: 1}}},
		{api.ErrArg, api.Filter{Window: api.Window{From: 0, To: api.End + 1}}},
		{api.ErrArg, api.Filter{Window: api.Window{From: math.MinInt, To: math.MaxInt}}},
		{api.ErrArg, api.Filter{Window: api.Window{From: 0, To: -1}}},
		{api.ErrLarge, api.Filter{Known: sums(api.MaxSums + 1)}},
		{api.ErrForm, api.Filter{Known: []string{""}}},
		{api.ErrForm, api.Filter{Known: []string{sum[1:]}}},
		{api.ErrForm, api.Filter{Known: []string{sum + "0"}}},
		{api.ErrForm, api.Filter{Known: []string{"0123456789ABCDEF"}}},
		{api.ErrForm, api.Filter{Known: []string{"01234567g9abcdef"}}},
		{api.ErrForm, api.Filter{Known: []string{"0123456 89abcdef"}}},
		{api.ErrOrder, api.Filter{Known: []string{sum, sum}}},
		{api.ErrOrder, api.Filter{Known: []string{sum, "0000000000000000", "?"}}},
	} {
		is(t, intake.CheckFilter(c.f), c.e)
		kept, left, e := intake.Keep(list(), c.f)
		fails(t, e, c.e, kept, left)
	}
}

// P1.5: of several errors the first one of the list.
func TestCheckFilterOrder(t *testing.T) {
	f := api.Filter{Kinds: []int{0}, Custodians: slices.Repeat([]string{"?"}, api.MaxPeople+1), Window: api.Window{From: -1}, Known: slices.Repeat([]string{"?"}, api.MaxSums+1)}
	for _, step := range []struct {
		e    api.Errno
		mend func()
	}{
		{api.ErrKind, func() { f.Kinds = []int{2, 1} }},
		{api.ErrOrder, func() { f.Kinds = nil }},
		{api.ErrLarge, func() { f.Custodians = f.Custodians[1:] }},
		{api.ErrName, func() { f.Custodians = []string{"b", "a"} }},
		{api.ErrOrder, func() { f.Custodians = nil }},
		{api.ErrArg, func() { f.Window = all() }},
		{api.ErrLarge, func() { f.Known = f.Known[1:] }},
		{api.ErrForm, func() { f.Known = nil }},
		{api.OK, func() {}},
	} {
		is(t, intake.CheckFilter(f), step.e)
		step.mend()
	}
}

// sorted has a family (a, b, z) and two items alone (c, d).
func sorted() []api.Item {
	l := []api.Item{
		item("a", "ann", api.ItemFile, "z", "a\n"),
		item("b", "bob", api.ItemNote, "z", "b\n"),
		item("c", "cid", api.ItemFile, "", "c\n"),
		item("d", "ann", api.ItemFile, "", "d\n"),
		item("z", "ann", api.ItemMail, "", "z\n"),
	}
	for i := range l {
		l[i].At = 10 * (i + 1)
	}
	return l
}

func expectKeep(t *testing.T, f api.Filter, kept string, left ...api.Left) {
	t.Helper()
	k, l, e := intake.Keep(sorted(), f)
	is(t, e, api.OK)
	is(t, k, words(kept))
	is(t, l, left)
}

// P1.5
func TestKeep(t *testing.T) {
	expectKeep(t, api.Filter{Window: all()}, "a b c d z")
	expectKeep(t, api.Filter{Kinds: []int{api.ItemNote}, Window: all()}, "a b z",
		api.Left{Id: "c", Why: api.LeftKind}, api.Left{Id: "d", Why: api.LeftKind})
	expectKeep(t, api.Filter{Custodians: words("bob cid"), Window: all()}, "a b c z",
		api.Left{Id: "d", Why: api.LeftCustodian})
	expectKeep(t, api.Filter{Window: api.Window{From: 30, To: 40}}, "c",
		api.Left{Id: "a", Why: api.LeftEarly}, api.Left{Id: "b", Why: api.LeftEarly}, api.Left{Id: "d", Why: api.LeftLate}, api.Left{Id: "z", Why: api.LeftLate})
	expectKeep(t, api.Filter{Window: api.Window{From: 40, To: 41}}, "d",
		api.Left{Id: "a", Why: api.LeftEarly}, api.Left{Id: "b", Why: api.LeftEarly}, api.Left{Id: "c", Why: api.LeftEarly}, api.Left{Id: "z", Why: api.LeftLate})
	expectKeep(t, api.Filter{}, "",
		api.Left{Id: "a", Why: api.LeftLate}, api.Left{Id: "b", Why: api.LeftLate}, api.Left{Id: "c", Why: api.LeftLate}, api.Left{Id: "d", Why: api.LeftLate}, api.Left{Id: "z", Why: api.LeftLate})
	known := []string{intake.Digest("file\nc\n"), intake.Digest("note\nb\n"), intake.Digest("note\nd\n")}
	slices.Sort(known)
	expectKeep(t, api.Filter{Window: all(), Known: known}, "a b d z",
		api.Left{Id: "c", Why: api.LeftKnown})
	kept, left, e := intake.Keep(nil, api.Filter{})
	is(t, []int{len(kept), len(left), int(e)}, []int{0, 0, 0})
}

// P1.5: the first reason that applies.
func TestKeepReasons(t *testing.T) {
	l := []api.Item{item("x", "ann", api.ItemFile, "", "x\n")}
	f := api.Filter{Kinds: []int{api.ItemBox}, Custodians: words("bob"), Window: api.Window{From: 101, To: 200}, Known: []string{sumOf(t, l[0])}}
	for _, step := range []struct {
		why  int
		mend func()
	}{
		{api.LeftKind, func() { f.Kinds = []int{api.ItemFile, api.ItemBox} }},
		{api.LeftCustodian, func() { f.Custodians = words("ann bob") }},
		{api.LeftEarly, func() { f.Window = api.Window{From: 100, To: 100} }},
		{api.LeftLate, func() { f.Window.To = 101 }},
		{api.LeftKnown, func() { f.Known = nil }},
	} {
		kept, left, e := intake.Keep(l, f)
		is(t, len(kept), 0)
		is(t, []any{left, e}, []any{[]api.Left{{Id: "x", Why: step.why}}, api.OK})
		step.mend()
	}
	kept, left, e := intake.Keep(l, f)
	is(t, []any{kept, len(left), e}, []any{words("x"), 0, api.OK})
}
