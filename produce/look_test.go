package produce_test

import (
	"strings"
	"testing"

	"paperchase/api"
	"paperchase/produce"
)

// badNumbers are none that Number writes.
func badNumbers() []string {
	return []string{"", "AB", "7", "0007", "AB007", "AB0000", "ab0007", "AB0007.2", "AB0007 ", "AB+007", "AB0000000007"}
}

// P8.6
func TestSheet(t *testing.T) {
	p := production()
	p.Sheets[4].Version, p.Sheets[4].Pages[2] = 2, make([]string, api.PageLong)
	p.Sheets[6].Version = 1_000
	p.Sheets[3].Pages[0] = nil
	for number, want := range map[string][]string{
		"AB0007": {"one two", "AB0007"},
		"AB0008": {"Two!", "AB0008"},
		"AB0009": {"with held", "AB0009"},
		"AB0010": {"not wanted", "AB0010"},
		"AB0011": {"AB0011"},
		"AB0012": {"", "AB0012.2"},
		"AB0013": {"four x-4", "AB0013.2"},
		"AB0014": append(make([]string, api.PageLong), "AB0014.2"),
		"AB0016": {"recalled", "AB0016.1000"},
	} {
		got, e := produce.Sheet(p, number)
		gives(t, got, e, want)
	}
	for _, number := range words("AB0006 AB0017 AB9999 AB00007 AB00012 A0007 ABC0007 BA0007") {
		got, e := produce.Sheet(p, number)
		fails(t, e, api.ErrNone, got)
	}
	for _, number := range badNumbers() {
		got, e := produce.Sheet(p, number)
		fails(t, e, api.ErrSyntax, got)
	}
	eachBadProduction(t, func(p api.Production) (api.Errno, []any) {
		got, e := produce.Sheet(p, "")
		return e, []any{got}
	})
	p = roomy(p)
	keeps(t, func() []any {
		got, _ := produce.Sheet(p, "AB0013")
		return []any{got}
	}, p)
}

// P8.6
func TestFind(t *testing.T) {
	for number, want := range map[string][]any{
		"AB0007": {1, "a", 1}, "AB0008": {1, "a", 2}, "AB0009": {1, "b", 1}, "AB0014": {1, "e", 3}, "AB0016": {1, "g", 1},
		"C0001": {2, "m", 1}, "C0003": {2, "m", 3}, "AB000003": {3, "n", 2}, "AB0021": {4, "o", 2}, "AB0017": {5, "p", 1},
	} {
		no, id, page, e := produce.Find(matter(), number)
		gives(t, []any{no, id, page}, e, want)
		lines, e := produce.Sheet(matter()[no-1], number)
		gives(t, lines[len(lines)-1], e, number)
	}
	for _, number := range words("AB0001 AB0003 AB000007 AB00003 AB0018 AB0022 C0004 D0001") {
		no, id, page, e := produce.Find(matter(), number)
		fails(t, e, api.ErrNone, no, id, page)
	}
	for _, number := range badNumbers() {
		no, id, page, e := produce.Find(matter(), number)
		fails(t, e, api.ErrSyntax, no, id, page)
	}
	no, id, page, e := produce.Find(nil, "AB0001")
	fails(t, e, api.ErrNone, no, id, page)
	eachBadList(t, func(l []api.Production) (api.Errno, []any) {
		no, id, page, e := produce.Find(l, "")
		return e, []any{no, id, page}
	})
}

// P8.6
func TestRange(t *testing.T) {
	for id, want := range map[string]string{
		"a": "AB0007 AB0008", "b": "AB0009 AB0009", "e": "AB0012 AB0014", "g": "AB0016 AB0016",
		"m": "C0001 C0003", "n": "AB000002 AB000004", "o": "AB0020 AB0021", "p": "AB0017 AB0017",
	} {
		from, to, e := produce.Range(matter(), id)
		gives(t, from+" "+to, e, want)
	}
	for _, id := range []string{"x", "aa", "ab0007", strings.Repeat("k", api.MaxName)} {
		from, to, e := produce.Range(matter(), id)
		fails(t, e, api.ErrNone, from, to)
	}
	for _, id := range append(badKeys(), "AB0007") {
		from, to, e := produce.Range(matter(), id)
		fails(t, e, api.ErrName, from, to)
	}
	eachBadList(t, func(l []api.Production) (api.Errno, []any) {
		from, to, e := produce.Range(l, "")
		return e, []any{from, to}
	})
}

// P8.6
func TestFamilies(t *testing.T) {
	got, e := produce.Families(production())
	gives(t, got, e, [][]string{words("a b c d"), words("e"), words("f g")})
	got, e = produce.Families(single(1, "AB", 4, "a", 1, 3))
	gives(t, got, e, [][]string{words("a")})
	eachBadProduction(t, func(p api.Production) (api.Errno, []any) {
		got, e := produce.Families(p)
		return e, []any{got}
	})
	p := roomy(production())
	keeps(t, func() []any {
		got, _ := produce.Families(p)
		return []any{got}
	}, p)
}
