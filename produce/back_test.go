package produce_test

import (
	"strings"
	"testing"

	"paperchase/api"
	"paperchase/produce"
)

// P8.8
func TestReplace(t *testing.T) {
	for _, c := range []struct {
		id, text string
		pages    [][]string
	}{
		{"a", "new\n", [][]string{{"new"}, nil}},
		{"a", "", [][]string{nil, nil}},
		{"b", "was held\n\n", [][]string{{"was held", ""}}},
		{"c", strings.Repeat("y", 81) + "\n", [][]string{{strings.Repeat("y", 80), "y"}}},
		{"g", "here again\n", [][]string{{"here again"}}},
	} {
		want := production()
		for i := range want.Sheets {
			if s := &want.Sheets[i]; s.Id == c.id {
				s.Kind, s.Pages, s.Version = api.SheetShown, c.pages, 2
			}
		}
		got, e := produce.Replace(production(), c.id, c.text)
		gives(t, got, e, want)
		is(t, produce.Check(got), api.OK)
	}
	got, e := produce.Replace(production(), "e", rows(101)) // all three pages
	gives(t, []int{len(got.Sheets[4].Pages), len(got.Sheets[4].Pages[2])}, e, []int{3, 1})
	again, e := produce.Replace(got, "e", "x\n")
	gives(t, []any{again.Sheets[4].Version, again.Sheets[4].Pages}, e, []any{3, [][]string{{"x"}, nil, nil}})
	is(t, produce.Check(again), api.OK)
	p := roomy(production())
	keeps(t, func() []any {
		got, _ := produce.Replace(p, "e", rows(70))
		return []any{got}
	}, p)
}

// P8.8
func TestReplaceErrors(t *testing.T) {
	eachBadProduction(t, func(p api.Production) (api.Errno, []any) {
		got, e := produce.Replace(p, "", "x")
		return e, []any{got}
	})
	for _, id := range append(badKeys(), "x", "aa") {
		got, e := produce.Replace(production(), id, "x")
		fails(t, e, api.ErrNone, got)
	}
	full := production()
	full.Sheets[0].Version = 1_000
	for _, p := range []api.Production{production(), full} {
		eachBadText(t, func(text string) (api.Errno, []any) {
			got, e := produce.Replace(p, "a", text)
			return e, []any{got}
		})
	}
	for id, many := range map[string]int{"a": 101, "b": 51, "e": 151, "g": 51} {
		got, e := produce.Replace(production(), id, rows(many))
		fails(t, e, api.ErrFull, got)
	}
	got, e := produce.Replace(full, "a", "")
	fails(t, e, api.ErrFull, got)
	full.Sheets[0].Version = 999
	got, e = produce.Replace(full, "a", "")
	gives(t, got.Sheets[0].Version, e, 1_000)
}

// back is the list of matter in which some items are given back.
func back(ids string) []api.Production {
	l := matter()
	for _, p := range l {
		for i := range p.Sheets {
			s := &p.Sheets[i]
			if !strings.Contains(" "+ids+" ", " "+s.Id+" ") {
				continue
			}
			s.Kind = api.SheetBack
			s.Version++
			for k := range s.Pages {
				s.Pages[k] = []string{"recalled"}
			}
		}
	}
	return l
}

// P8.8
func TestRecall(t *testing.T) {
	for _, c := range []struct{ id, back, numbers string }{
		{"a", "a d", "AB0007 AB0008 AB0011"},
		{"d", "a d", "AB0007 AB0008 AB0011"},
		{"b", "a b d", "AB0007 AB0008 AB0009 AB0011"}, // itself, although it is held
		{"c", "a c d", "AB0007 AB0008 AB0010 AB0011"},
		{"e", "e", "AB0012 AB0013 AB0014"},
		{"f", "f", "AB0015"},
		{"g", "g", "AB0016"}, // again
		{"m", "m", "C0001 C0002 C0003"},
		{"n", "n", "AB000002 AB000003 AB000004"},
		{"p", "p", "AB0017"},
	} {
		l, numbers, e := produce.Recall(matter(), c.id)
		gives(t, l, e, back(c.back))
		is(t, numbers, words(c.numbers))
		is(t, produce.CheckAll(l), api.OK)
	}
	l, _, e := produce.Recall(matter(), "a")
	is(t, e, api.OK)
	l, numbers, e := produce.Recall(l, "d") // a is back already
	gives(t, numbers, e, words("AB0011"))
	is(t, []int{l[0].Sheets[0].Version, l[0].Sheets[3].Version}, []int{2, 3})
	shown, e := produce.Replace(l[0], "a", "new\n") // what was recalled can be shown again
	gives(t, []any{shown.Sheets[0].Kind, shown.Sheets[0].Version, shown.Sheets[0].Pages}, e, []any{api.SheetShown, 3, [][]string{{"new"}, nil}})
	x := roomy(matter())
	keeps(t, func() []any {
		l, numbers, _ := produce.Recall(x, "b")
		return []any{l, numbers}
	}, x)
}

// P8.8
func TestRecallErrors(t *testing.T) {
	eachBadList(t, func(l []api.Production) (api.Errno, []any) {
		all, numbers, e := produce.Recall(l, "")
		return e, []any{all, numbers}
	})
	for _, id := range badKeys() {
		l, numbers, e := produce.Recall(matter(), id)
		fails(t, e, api.ErrName, l, numbers)
	}
	for _, id := range []string{"x", "aa", strings.Repeat("k", api.MaxName)} {
		l, numbers, e := produce.Recall(matter(), id)
		fails(t, e, api.ErrNone, l, numbers)
	}
	l, numbers, e := produce.Recall(nil, "a")
	fails(t, e, api.ErrNone, l, numbers)
	for i, want := range []api.Errno{api.ErrFull, api.OK, api.ErrFull, api.ErrFull} { // of c itself, and what is shown of its family
		x := matter()
		x[0].Sheets[i].Version = 1_000
		l, numbers, e := produce.Recall(x, "c")
		is(t, e, want)
		if e != api.OK {
			fails(t, e, want, l, numbers)
		}
		x[0].Sheets[i].Version = 999
		l, _, e = produce.Recall(x, "c")
		gives(t, produce.CheckAll(l), e, api.OK)
	}
}
