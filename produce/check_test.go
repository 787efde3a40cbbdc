package produce_test

import (
	"strings"
	"testing"

	"paperchase/api"
	"paperchase/produce"
)

// P8.5
func TestCheck(t *testing.T) {
	for _, change := range []func(p *api.Production){
		func(p *api.Production) {},
		func(p *api.Production) { p.No = api.MaxProductions },
		func(p *api.Production) { p.Prefix, p.Digits = "ABCDEFGH", 9 },
		func(p *api.Production) { p.Sheets = p.Sheets[:1] },
		func(p *api.Production) { p.Sheets = p.Sheets[4:] },
		func(p *api.Production) { p.Sheets[4].Version = 1_000 },
		func(p *api.Production) { p.Sheets[4].Pages[1] = nil },
		func(p *api.Production) { p.Sheets[4].Pages[1] = make([]string, api.PageLong) },
		func(p *api.Production) { p.Sheets[4].Pages[1][0] = strings.Repeat("é", api.PageWide/2) },
		func(p *api.Production) { p.Sheets[4].Pages[1][0] = "  ^~|  \u0080" },
		func(p *api.Production) { p.Sheets[1].Pages[0][0] = "" },                                         // held: one line, whichever
		func(p *api.Production) { p.Sheets[4].Kind = api.SheetBack },                                     // of several pages
		func(p *api.Production) { p.Sheets[3].Kind, p.Sheets[3].Pages[0] = api.SheetBack, words("a b") }, // of several lines
		func(p *api.Production) { p.Sheets[1].Top = "b"; p.Sheets[2].Top, p.Sheets[3].Top = "b", "d" },
		func(p *api.Production) { *p = single(1, "AB", 4, "a", 9_990, 9_999) },
		func(p *api.Production) { *p = single(1, "AB", 9, "a", 999_999_999, 999_999_999) },
		func(p *api.Production) { *p = single(1, "AB", 9, "a", 1, 100_001) }, // more than Make would make
	} {
		p := production()
		change(&p)
		is(t, produce.Check(p), api.OK)
	}
	big := api.Production{No: 1, Prefix: "A", Digits: 4}
	for i := range api.MaxItems {
		big.Sheets = append(big.Sheets, sheet(name("m", i), "m000000", api.SheetShown, i, "x"))
	}
	is(t, produce.Check(big), api.OK)
	big.Sheets = append(big.Sheets, sheet("x", "m000000", api.SheetShown, api.MaxItems, "x"))
	is(t, produce.Check(big), api.ErrLarge)
	eachBadProduction(t, func(p api.Production) (api.Errno, []any) { return produce.Check(p), nil })
}

// P8.5: of several errors the first one of the list, Sheet by Sheet.
func TestCheckOrder(t *testing.T) {
	p := api.Production{Sheets: make([]api.Sheet, api.MaxItems+1)}
	some := p.Sheets[:3]
	some[0] = sheet("a", "a", api.SheetShown, 6, "x")
	s := &some[1]
	for _, c := range []step{
		{api.ErrArg, func() {}},
		{api.ErrForm, func() { p.No = 1 }},
		{api.ErrArg, func() { p.Prefix = "A" }},
		{api.ErrLarge, func() { p.Digits = 4 }},
		{api.ErrNone, func() { p.Sheets = nil }},
		{api.ErrName, func() { p.Sheets = some }},
		{api.ErrName, func() { s.Id = "a" }},
		{api.ErrTwice, func() { s.Top = "x" }},
		{api.ErrOrder, func() { s.Id = "b" }},
		{api.ErrKind, func() { s.Top = "a" }},
		{api.ErrArg, func() { s.Kind = api.SheetHeld }},
		{api.ErrArg, func() { s.Version = 1 }},
		{api.ErrArg, func() { s.From = 8 }},
		{api.ErrForm, func() { s.To = 8 }},
		{api.ErrForm, func() { s.Pages = [][]string{nil} }},
		{api.ErrForm, func() { s.Pages = [][]string{{"x"}, {"x"}} }},
		{api.ErrName, func() { s.Pages = [][]string{{"x"}} }}, // the third one
		{api.OK, func() { p.Sheets = some[:2] }},
	} {
		c.mend()
		is(t, produce.Check(p), c.e)
	}
}

// P8.5
func TestCheckAll(t *testing.T) {
	for _, l := range [][]api.Production{nil, {production()}, matter(), manyProductions(api.MaxProductions)} {
		is(t, produce.CheckAll(l), api.OK)
	}
	is(t, produce.CheckAll([]api.Production{ // numbers next to each other, and between
		single(1, "A", 4, "a", 5, 9), single(2, "A", 4, "b", 10, 12), single(3, "A", 4, "c", 4, 4), single(4, "AA", 4, "d", 5, 9), single(5, "A", 9, "e", 1, 3),
	}), api.OK)
	eachBadList(t, func(l []api.Production) (api.Errno, []any) { return produce.CheckAll(l), nil })
}

// P8.5: of several errors the first one of the list, production by production, Sheet by Sheet.
func TestCheckAllOrder(t *testing.T) {
	l := make([]api.Production, api.MaxProductions+1)
	l[0] = single(1, "AB", 4, "a", 5, 7)
	p := &l[1]
	for _, c := range []step{
		{api.ErrLarge, func() {}},
		{api.ErrArg, func() { l = l[:3] }},
		{api.ErrOrder, func() {
			*p = single(3, "AB", 4, "a", 6, 6)
			p.Sheets = append(p.Sheets, sheet("b", "b", api.SheetShown, 6, "x"))
		}},
		{api.ErrTwice, func() { p.No = 2 }},
		{api.ErrConflict, func() { p.Sheets[0].Id, p.Sheets[0].Top = "x", "x" }},
		{api.ErrConflict, func() { p.Sheets[1].Id, p.Sheets[1].Top = "a", "a" }}, // x comes first
		{api.ErrTwice, func() { p.Sheets[0].From, p.Sheets[0].To, p.Sheets[1].From, p.Sheets[1].To = 4, 4, 5, 5 }},
		{api.ErrConflict, func() { p.Sheets[1].Id, p.Sheets[1].Top = "y", "y" }},
		{api.ErrArg, func() { p.Prefix = "AC" }}, // the third one
		{api.OK, func() { l = l[:2] }},
	} {
		c.mend()
		is(t, produce.CheckAll(l), c.e)
	}
}
