package produce_test

import (
	"math/rand/v2"
	"slices"
	"strings"
	"testing"

	"paperchase/api"
	"paperchase/privilege"
	"paperchase/produce"
)

// places writes Id, From and To of each Sheet.
func places(p api.Production) string {
	var l []string
	for _, s := range p.Sheets {
		from, _ := produce.Number("N", 4, s.From)
		to, _ := produce.Number("N", 4, s.To)
		l = append(l, s.Id+" "+from+" "+to)
	}
	return strings.Join(l, ", ")
}

// P8.4: the example of the document.
func TestMakeExample(t *testing.T) {
	l := []api.Item{item("m", "ann", 0, "", "x\n"), item("n", "ann", 0, "m", "x\n")}
	p, e := produce.Make(l, []api.Ruling{show("m"), ruling("n", api.RuleHold)}, setup(), nil)
	gives(t, p, e, api.Production{No: 1, Prefix: "AB", Digits: 4, Sheets: []api.Sheet{
		{Id: "m", Top: "m", Kind: api.SheetShown, From: 1, To: 1, Pages: [][]string{{"x"}}, Version: 1},
		{Id: "n", Top: "m", Kind: api.SheetHeld, From: 2, To: 2, Pages: [][]string{{"with held"}}, Version: 1},
	}})
	images, e := produce.Images(p, 1)
	gives(t, images, e, "AB0001,VOL001,Y,1\nAB0002,VOL001,Y,1\n")
}

// P8.4
func TestMake(t *testing.T) {
	rulings := []api.Ruling{show("a", api.Span{From: 1, To: 5}), ruling("b", api.RuleHold), show("c"), show("d"), ruling("g", api.RuleHold), show("h")}
	s := setup()
	p, e := produce.Make(items(), rulings, s, nil)
	is(t, e, api.OK)
	is(t, []any{p.No, p.Prefix, p.Digits}, []any{1, "AB", 4})
	is(t, places(p), "a N0001 N0001, b N0002 N0002, d N0003 N0004, c N0005 N0005, h N0006 N0006")
	var kinds []int
	for _, x := range p.Sheets {
		kinds = append(kinds, x.Kind)
		is(t, []any{x.Version, len(x.Pages)}, []any{1, x.To - x.From + 1})
		is(t, x.Top == "a", x.Id != "h")
	}
	is(t, kinds, []int{api.SheetShown, api.SheetHeld, api.SheetShown, api.SheetShown, api.SheetShown})
	is(t, p.Sheets[0].Pages, [][]string{{"o## #wo"}})
	is(t, p.Sheets[1].Pages, [][]string{{"with held"}})
	is(t, p.Sheets[2].Pages[1], []string{"x"})
	is(t, p.Sheets[3].Pages, [][]string{nil}) // an empty text

	s.Order, s.Prefix, s.Digits = api.OrderTime, "Q", 7
	q, e := produce.Make(items(), []api.Ruling{show("e"), show("g")}, s, []api.Production{p})
	is(t, e, api.OK)
	is(t, []any{q.No, q.Prefix, q.Digits}, []any{2, "Q", 7})
	is(t, places(q), "f N0001 N0001, g N0002 N0002, e N0003 N0003") // f has no ruling
	is(t, []any{q.Sheets[0].Kind, q.Sheets[0].Pages}, []any{api.SheetLeft, [][]string{{"not wanted"}}})
	is(t, produce.CheckAll([]api.Production{p, q}), api.OK)

	s.Prefix = "AB" // goes on after the greatest number, with other digits too
	more, e := produce.Make([]api.Item{item("z", "ann", 0, "", "")}, shows("z"), s, []api.Production{p, q})
	gives(t, places(more), e, "z N0007 N0007")
	more, e = produce.Make([]api.Item{item("z", "ann", 0, "", "")}, shows("z"), setup(), matter())
	gives(t, places(more), e, "z N0022 N0022") // not after the last one
	is(t, produce.CheckAll(append(matter(), more)), api.OK)
}

// P8.4: the limits of pages and numbers.
func TestMakeLimits(t *testing.T) {
	s := setup()
	s.Most = 2
	x := []api.Item{item("z", "ann", 0, "", rows(100))}
	p, e := produce.Make(x, shows("z"), s, nil)
	gives(t, places(p), e, "z N0001 N0002")
	x[0].Text = rows(101)
	p, e = produce.Make(x, shows("z"), s, nil)
	fails(t, e, api.ErrLarge, p)
	s.Most = 3
	p, e = produce.Make(x, shows("z"), s, nil)
	gives(t, places(p), e, "z N0001 N0003")
	p, e = produce.Make(x, shows("z"), s, []api.Production{single(1, "AB", 9, "a", 9_996, 9_996)})
	gives(t, places(p), e, "z N9997 N9999")
	p, e = produce.Make(x, shows("z"), s, []api.Production{single(1, "AB", 9, "a", 9_997, 9_997)})
	fails(t, e, api.ErrFull, p)
	s.Most = 2
	p, e = produce.Make(x, shows("z"), s, []api.Production{single(1, "AB", 9, "a", 9_997, 9_997)})
	fails(t, e, api.ErrLarge, p)
	s.Most, s.Digits = 3, 5
	p, e = produce.Make(x, shows("z"), s, []api.Production{single(1, "AB", 4, "a", 9_999, 9_999)})
	is(t, []any{p.Sheets[0].From, p.Sheets[0].To, e}, []any{10_000, 10_002, api.OK})
	s.Most, s.Digits = 100_000, 9
	p, e = produce.Make(x, shows("z"), s, []api.Production{single(1, "AB", 9, "a", 999_999_999, 999_999_999)})
	fails(t, e, api.ErrFull, p)

	big := manyItems(api.MaxItems)
	var all []api.Ruling
	for i := range big {
		big[i].Text = strings.Repeat("\n", 50*50)
		all = append(all, show(big[i].Id))
	}
	p, e = produce.Make(big, all, s, nil)
	is(t, []any{p.Sheets[api.MaxItems-1].To, e}, []any{api.MaxPages, api.OK})
	is(t, produce.Check(p), api.OK)
	big[7].Text += "\n"
	p, e = produce.Make(big, all, s, nil)
	fails(t, e, api.ErrLarge, p)
}

// P8.4
func TestMakeErrors(t *testing.T) {
	eachBadRulings(t, func(items []api.Item, l []api.Ruling) (api.Errno, []any) {
		p, e := produce.Make(items, l, api.Setup{}, []api.Production{{}})
		return e, []any{p}
	})
	eachBadSetup(t, func(s api.Setup) (api.Errno, []any) {
		p, e := produce.Make(items(), nil, s, []api.Production{{}})
		return e, []any{p}
	})
	eachBadList(t, func(l []api.Production) (api.Errno, []any) {
		p, e := produce.Make(items(), nil, setup(), l)
		return e, []any{p}
	})
	x, s := []api.Item{item("p-", "ann", 0, "", rows(51)), item("p0000000", "ann", 0, "p-", "")}, setup()
	past, l := manyProductions(api.MaxProductions), shows("p-")
	past[0].Sheets[0].Id, past[0].Sheets[0].Top = "p0000000", "p0000000"
	s.Most = 1
	for _, c := range []step{
		{api.ErrFull, func() {}},
		{api.ErrTwice, func() { past = past[:api.MaxProductions-1] }}, // an item of the family, itself not shown
		{api.ErrNone, func() { l = nil }},
		{api.ErrNone, func() { past[0] = single(1, "AB", 4, "p0", 1, 9_000); past = past[:1] }},
		{api.ErrNone, func() { l = []api.Ruling{ruling("p-", api.RuleHold), ruling("p0000000", api.RuleLeave)} }},
		{api.ErrLarge, func() { past[0], l = single(1, "AB", 4, "p0", 9_998, 9_998), shows("p-") }},
		{api.ErrLarge, func() { s.Most = 2 }},
		{api.ErrFull, func() { s.Most = 3 }},
		{api.OK, func() { s.Prefix = "AC" }},
	} {
		c.mend()
		p, e := produce.Make(x, l, s, past)
		is(t, e, c.e)
		is(t, len(p.Sheets) > 0, c.e == api.OK)
		if e != api.OK {
			fails(t, e, c.e, p)
		}
	}
	p, e := produce.Make(x[:1], l, s, manyProductions(api.MaxProductions-1))
	is(t, []any{p.No, e}, []any{api.MaxProductions, api.OK})
}

// Z2
func TestMakeKeeps(t *testing.T) {
	x, l, past := roomy(items()), roomy([]api.Ruling{show("e", api.Span{From: 0, To: 2}), show("f"), ruling("g", api.RuleHold)}), roomy(matter()[1:2])
	past[0].No = 1
	keeps(t, func() []any {
		p, e := produce.Make(x, l, setup(), past)
		is(t, e, api.OK)
		return []any{p}
	}, x, l, past)
}

// P8.4: productions one after the other are as the document's words say, and CheckAll accepts them.
func TestMakeRandom(t *testing.T) {
	r := rand.New(rand.NewPCG(8, 4))
	made := 0
	for range 300 {
		var past []api.Production
		last := map[string]int{}
		for range 6 {
			x := randomItems(r, pick(r, "a", "b", "c", "d", "e", "f")+"-")
			l := randomRulings(r, x)
			s := setup()
			s.Prefix, s.Digits, s.Order = pick(r, "A", "B", "AB"), 4+r.IntN(3), 1+r.IntN(3)
			p, e := produce.Make(x, l, s, past)
			families, _ := produce.Chosen(x, l, s.Order)
			if e != api.OK {
				want := api.ErrNone
				if len(families) > 0 {
					want = api.ErrTwice
					is(t, slices.ContainsFunc(families, func(f api.Family) bool { return isKnown(past, f) }), true)
				}
				fails(t, e, want, p)
				continue
			}
			made++
			is(t, []any{p.No, p.Prefix, p.Digits}, []any{len(past) + 1, s.Prefix, s.Digits})
			at := 0
			for _, f := range families {
				for _, id := range f.Items {
					want := expected(x, l, id)
					want.Top, want.From, want.To = f.Top, last[s.Prefix]+1, last[s.Prefix]+len(want.Pages)
					is(t, p.Sheets[at], want)
					last[s.Prefix] = want.To
					at++
				}
			}
			is(t, len(p.Sheets), at)
			past = append(past, p)
			is(t, produce.CheckAll(past), api.OK)
		}
	}
	is(t, made > 500, true)
}

// isKnown says whether an item of a family has numbers.
func isKnown(past []api.Production, f api.Family) bool {
	return slices.ContainsFunc(f.Items, func(id string) bool {
		_, _, e := produce.Range(past, id)
		return e == api.OK
	})
}

// expected is the Sheet of an item without its place.
func expected(items []api.Item, l []api.Ruling, id string) api.Sheet {
	s := api.Sheet{Id: id, Kind: api.SheetLeft, Pages: [][]string{{"not wanted"}}, Version: 1}
	for _, y := range l {
		for _, x := range items {
			if x.Id != id || y.Id != id {
				continue
			}
			if y.What == api.RuleHold {
				s.Kind, s.Pages = api.SheetHeld, [][]string{{"with held"}}
			}
			if y.What == api.RuleShow {
				text, _ := privilege.Redact(x.Text, y.Spans)
				s.Kind = api.SheetShown
				s.Pages, _ = produce.Pages(text)
			}
		}
	}
	return s
}
