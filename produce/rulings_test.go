package produce_test

import (
	"math/rand/v2"
	"slices"
	"strings"
	"testing"

	"paperchase/api"
	"paperchase/intake"
	"paperchase/produce"
)

// P8.3
func TestCheckSetup(t *testing.T) {
	for _, change := range []func(s *api.Setup){
		func(s *api.Setup) {},
		func(s *api.Setup) { s.Prefix, s.Digits, s.Order = "ABCDEFGH", 9, api.OrderTime },
		func(s *api.Setup) { s.Prefix, s.Order = "Z", api.OrderCustodian },
		func(s *api.Setup) { s.Slip, s.Skip = "x", strings.Repeat("x", 80) },
		func(s *api.Setup) { s.Slip, s.Skip = strings.Repeat("é", 40), "é" },
		func(s *api.Setup) { s.Most = 1 },
		func(s *api.Setup) { s.Most = 100_000 },
	} {
		s := setup()
		change(&s)
		is(t, produce.CheckSetup(s), api.OK)
	}
	eachBadSetup(t, func(s api.Setup) (api.Errno, []any) { return produce.CheckSetup(s), nil })
	s := api.Setup{}
	for _, x := range []step{
		{api.ErrForm, func() {}},
		{api.ErrArg, func() { s.Prefix = "A" }},
		{api.ErrKind, func() { s.Digits = 4 }},
		{api.ErrForm, func() { s.Order = api.OrderId }},
		{api.ErrForm, func() { s.Slip = "x" }},
		{api.ErrArg, func() { s.Skip = "x" }},
		{api.OK, func() { s.Most = 1 }},
	} {
		x.mend()
		is(t, produce.CheckSetup(s), x.e)
	}
}

// eachBadSetup calls a function with setups that CheckSetup does not accept.
func eachBadSetup(t *testing.T, call func(s api.Setup) (api.Errno, []any)) {
	t.Helper()
	bad := func(want api.Errno, spoil func(s *api.Setup)) {
		t.Helper()
		s := setup()
		spoil(&s)
		e, results := call(s)
		fails(t, e, want, results...)
	}
	for _, prefix := range badPrefixes() {
		bad(api.ErrForm, func(s *api.Setup) { s.Prefix = prefix })
	}
	for _, digits := range outside(4, 9) {
		bad(api.ErrArg, func(s *api.Setup) { s.Digits = digits })
	}
	for _, order := range outside(api.OrderId, api.OrderCustodian) {
		bad(api.ErrKind, func(s *api.Setup) { s.Order = order })
	}
	for _, slip := range append(badLines(), "", " ", "a ", " a", "a  b", "a\nb", strings.Repeat("x", 81), strings.Repeat("é", 40)+"x") {
		bad(api.ErrForm, func(s *api.Setup) { s.Slip = slip })
		bad(api.ErrForm, func(s *api.Setup) { s.Skip = slip })
	}
	for _, most := range outside(1, 100_000) {
		bad(api.ErrArg, func(s *api.Setup) { s.Most = most })
	}
}

// P8.3
func TestCheckRulings(t *testing.T) {
	text := len(rows(101))
	for _, l := range [][]api.Ruling{
		nil,
		{ruling("a", api.RuleHold)},
		{show("a"), ruling("c", api.RuleLeave), ruling("h", api.RuleHold)},
		{show("a", api.Span{From: 0, To: 1}, api.Span{From: 2, To: 8}), show("f", api.Span{From: text - 1, To: text})},
	} {
		is(t, produce.CheckRulings(items(), l), api.OK)
	}
	is(t, produce.CheckRulings(nil, nil), api.OK)
	many := manyItems(api.MaxItems)
	var all []api.Ruling
	for _, x := range many {
		all = append(all, show(x.Id))
	}
	is(t, produce.CheckRulings(many, all), api.OK)
	is(t, produce.CheckRulings(many, append(all, show("x"))), api.ErrLarge)
	eachBadRulings(t, func(items []api.Item, l []api.Ruling) (api.Errno, []any) { return produce.CheckRulings(items, l), nil })
}

// eachBadRulings calls a function with items and rulings that CheckRulings does not accept.
func eachBadRulings(t *testing.T, call func(items []api.Item, l []api.Ruling) (api.Errno, []any)) {
	t.Helper()
	eachBadItems(t, func(l []api.Item) (api.Errno, []any) { return call(l, make([]api.Ruling, api.MaxItems+1)) })
	l := make([]api.Ruling, api.MaxItems+1)
	l[0] = show("b")
	x := &l[1]
	x.Spans = []api.Span{{From: 0, To: 9}}
	for _, s := range []step{
		{api.ErrLarge, func() {}},
		{api.ErrNone, func() { l = l[:3] }},
		{api.ErrNone, func() { x.Id = "x" }},
		{api.ErrOrder, func() { x.Id = "a" }},
		{api.ErrOrder, func() { x.Id = "b" }},
		{api.ErrKind, func() { x.Id = "e" }},
		{api.ErrKind, func() { x.What = -1 }},
		{api.ErrKind, func() { x.What = 4 }},
		{api.ErrForm, func() { x.What = api.RuleHold }},
		{api.ErrForm, func() { x.What = api.RuleLeave }},
		{api.ErrArg, func() { x.What = api.RuleShow }}, // the text has 5 bytes
		{api.ErrArg, func() { x.Spans = []api.Span{{From: 0, To: 6}} }},
		{api.ErrArg, func() { x.Spans = []api.Span{{From: -1, To: 2}} }},
		{api.ErrArg, func() { x.Spans = []api.Span{{From: 2, To: 2}} }},
		{api.ErrOrder, func() { x.Spans = []api.Span{{From: 0, To: 2}, {From: 2, To: 3}} }},
		{api.ErrLarge, func() { x.Spans = make([]api.Span, api.MaxSpans+1) }},
		{api.ErrNone, func() { x.Spans = nil }}, // the third one
	} {
		s.mend()
		e, results := call(items(), l)
		fails(t, e, s.e, results...)
	}
	e, results := call(items(), []api.Ruling{show("c", api.Span{From: 0, To: 1})}) // of a text that is empty
	fails(t, e, api.ErrArg, results...)
}

func family(top, ids string) api.Family { return api.Family{Top: top, Items: words(ids)} }

// P8.3
func TestChosen(t *testing.T) {
	a, e, f, h := family("a", "a b d c"), family("e", "e"), family("f", "f g"), family("h", "h")
	for _, c := range []struct {
		shown string
		order int
		want  []api.Family
	}{
		{"", api.OrderId, nil},
		{"a e f h", api.OrderId, []api.Family{a, e, f, h}},
		{"d g h", api.OrderId, []api.Family{a, f, h}}, // whichever of its items is shown
		{"a e f h", api.OrderTime, []api.Family{f, a, h, e}},
		{"b e g h", api.OrderTime, []api.Family{f, a, h, e}}, // by the moment of the top
		{"a e f h", api.OrderCustodian, []api.Family{e, f, a, h}},
		{"b c d g", api.OrderCustodian, []api.Family{f, a}}, // by the custodian of the top
	} {
		got, errno := produce.Chosen(items(), shows(c.shown), c.order)
		gives(t, got, errno, c.want)
	}
	got, errno := produce.Chosen(items(), []api.Ruling{ruling("a", api.RuleHold), ruling("e", api.RuleLeave), show("g")}, api.OrderId)
	gives(t, got, errno, []api.Family{f})
	got, errno = produce.Chosen(nil, nil, api.OrderTime)
	gives(t, got, errno, []api.Family{})
	eachBadRulings(t, func(items []api.Item, l []api.Ruling) (api.Errno, []any) {
		got, errno := produce.Chosen(items, l, 0)
		return errno, []any{got}
	})
	for _, order := range outside(api.OrderId, api.OrderCustodian) {
		got, errno := produce.Chosen(items(), nil, order)
		fails(t, errno, api.ErrKind, got)
	}
	x, l := roomy(items()), roomy(shows("a d g"))
	keeps(t, func() []any {
		got, _ := produce.Chosen(x, l, api.OrderCustodian)
		return []any{got}
	}, x, l)
}

// P8.3: Chosen is as the document's words say.
func TestChosenRandom(t *testing.T) {
	r := rand.New(rand.NewPCG(8, 3))
	for range 3_000 {
		x := randomItems(r, "i")
		l := randomRulings(r, x)
		byId := map[string]api.Item{}
		for _, i := range x {
			byId[i.Id] = i
		}
		all, e := intake.Families(x)
		is(t, e, api.OK)
		all = slices.DeleteFunc(all, func(f api.Family) bool {
			return !slices.ContainsFunc(l, func(y api.Ruling) bool { return y.What == api.RuleShow && slices.Contains(f.Items, y.Id) })
		})
		for order := api.OrderId; order <= api.OrderCustodian; order++ {
			slices.SortStableFunc(all, func(f, g api.Family) int { return strings.Compare(f.Top, g.Top) })
			if order != api.OrderId {
				slices.SortStableFunc(all, func(f, g api.Family) int { return byId[f.Top].At - byId[g.Top].At })
			}
			if order == api.OrderCustodian {
				slices.SortStableFunc(all, func(f, g api.Family) int {
					return strings.Compare(byId[f.Top].Custodian, byId[g.Top].Custodian)
				})
			}
			got, e := produce.Chosen(x, l, order)
			gives(t, got, e, all)
		}
	}
}
