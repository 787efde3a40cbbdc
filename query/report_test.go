package query_test

import (
	"math/rand/v2"
	"slices"
	"strings"
	"testing"

	"paperchase/api"
	"paperchase/intake"
	"paperchase/query"
)

// P4.6
func TestPatterns(t *testing.T) {
	for text, want := range map[string]string{
		"all":                        "",
		"a*":                         "a*",
		`"b a b"`:                    "a b",
		"owner:ann or name:a or all": "",
		"not (c and not b) or a":     "a b c",
		"b w/1 (c or a) pre/2 b":     "a b c",
		`("sign* contract" or deal) w/3 friday and not owner:ann`: "contract deal friday sign*",
		"aa or a? or a* or a or A":                                "a a* a? aa",
	} {
		l, e := query.Patterns(parse(t, text))
		is(t, e, api.OK)
		is(t, l, words(want))
	}
	eachBadQuery(t, func(q api.Query) (any, api.Errno) { return query.Patterns(q) })
	q := phrase("b a")
	l, _ := query.Patterns(q)
	l[0] = "changed"
	is(t, q, phrase("b a"))
}

func report(t *testing.T, l []api.Item, searches ...string) []api.Term {
	t.Helper()
	var some []api.Query
	for _, s := range searches {
		some = append(some, parse(t, s))
	}
	terms, e := query.Report(some, l)
	is(t, e, api.OK)
	return terms
}

func term(items, whole, unique int) api.Term {
	return api.Term{Items: items, Whole: whole, Unique: unique}
}

// P4.6
func TestReport(t *testing.T) {
	// the families of a (b, d) and of c, and e
	l := []api.Item{item("a", "x y\n"), child("a", item("b", "y\n")), item("c", "x z\n"), child("a", item("d", "")), item("e", "z\n")}
	is(t, report(t, l, "x", "y", "z", "none", "all"), []api.Term{term(2, 4, 0), term(2, 3, 0), term(2, 2, 0), term(0, 0, 0), term(5, 5, 1)})
	is(t, report(t, l, "x", "y", "z"), []api.Term{term(2, 4, 0), term(2, 3, 1), term(2, 2, 1)})
	is(t, report(t, l, "x", "x"), []api.Term{term(2, 4, 0), term(2, 4, 0)})
	is(t, report(t, l, "x", "x w/1 y"), []api.Term{term(2, 4, 1), term(1, 3, 0)})
	is(t, report(t, l, "not (x or y or z)"), []api.Term{term(1, 3, 1)})
	is(t, report(t, l, "x"), []api.Term{term(2, 4, 2)})
	is(t, report(t, l), []api.Term{})
	is(t, report(t, nil, "x", "all"), []api.Term{term(0, 0, 0), term(0, 0, 0)})
	is(t, len(report(t, l, slices.Repeat([]string{"x"}, api.MaxList)...)), api.MaxList)
}

// P4.6
func TestReportErrors(t *testing.T) {
	wrong := []api.Item{item("A", "")}
	bad := slices.Repeat([]api.Query{{}}, api.MaxList+1)
	terms, e := query.Report(bad, wrong)
	fails(t, e, api.ErrLarge, terms)
	terms, e = query.Report(slices.Repeat([]api.Query{all()}, api.MaxList+1), nil)
	fails(t, e, api.ErrLarge, terms)
	terms, e = query.Report([]api.Query{all(), word("?"), {}}, wrong)
	fails(t, e, api.ErrName, terms)
	eachBadQuery(t, func(q api.Query) (any, api.Errno) { return query.Report([]api.Query{all(), q}, wrong) })
	eachBadList(t, func(l []api.Item) (any, api.Errno) { return query.Report([]api.Query{all()}, l) })
	eachBadList(t, func(l []api.Item) (any, api.Errno) { return query.Report(nil, l) })
}

// P4.6: against Search and intake.Whole.
func TestReportOfAnything(t *testing.T) {
	r := rand.New(rand.NewPCG(4, 9))
	for range 500 {
		l := randomItems(r)
		var some []api.Query
		var found [][]string
		for range r.IntN(4) {
			q := randomQuery(r)
			ids, e := query.Search(q, l)
			is(t, e, api.OK)
			some, found = append(some, q), append(found, ids)
		}
		var want []api.Term
		for i, ids := range found {
			whole, e := intake.Whole(l, ids)
			is(t, e, api.OK)
			unique := 0
			for _, id := range ids {
				if !slices.ContainsFunc(slices.Concat(found[:i], found[i+1:]), func(other []string) bool { return slices.Contains(other, id) }) {
					unique++
				}
			}
			want = append(want, term(len(ids), len(whole), unique))
		}
		got, e := query.Report(some, l)
		is(t, e, api.OK)
		is(t, got, want)
	}
}

func counts(l ...any) []api.Count {
	var all []api.Count
	for i := 0; i < len(l); i += 2 {
		all = append(all, api.Count{Word: l[i].(string), Many: l[i+1].(int)})
	}
	return all
}

// P4.6
func TestExpand(t *testing.T) {
	l := texts("Sign signs sign\n", "signs, SIGNED\n", "", "design sigh \u00e9\xc3\xa9\n")
	for pattern, want := range map[string][]api.Count{
		"sign*":   counts("signs", 2, "sign", 1, "signed", 1),
		"s*":      counts("signs", 2, "sigh", 1, "sign", 1, "signed", 1),
		"sig?":    counts("sigh", 1, "sign", 1),
		"signs":   counts("signs", 2),
		"z*":      nil,
		"and":     nil,
		"\u00e9*": counts("\u00e9\u00e9", 1),
	} {
		got, e := query.Expand(pattern, l)
		is(t, e, api.OK)
		is(t, got, want)
	}
	got, e := query.Expand("a", nil)
	is(t, e, api.OK)
	is(t, got, []api.Count{})
	// only Text, and words that are longer than a pattern
	long := xs(3 * api.MaxWord)
	got, e = query.Expand(xs(api.MaxWord-1)+"*", texts(long+" deal\n", long+"\n"))
	is(t, e, api.OK)
	is(t, got, counts(long, 2))
	got, e = query.Expand("memo", l)
	is(t, e, api.OK)
	is(t, got, []api.Count{})
}

// P4.6
func TestExpandErrors(t *testing.T) {
	for _, pattern := range []string{"", "*", "?", "A", "a b", "a**", xs(api.MaxWord + 1), strings.Repeat("x", 200_000)} {
		l, e := query.Expand(pattern, []api.Item{item("A", "")})
		fails(t, e, api.ErrName, l)
	}
	eachBadList(t, func(l []api.Item) (any, api.Errno) { return query.Expand("a", l) })
}

// P4.6, P4.3, Z2: lists of items are as before.
func TestKeepsItems(t *testing.T) {
	long := append(texts("a b\n", "b\n"), item("rest", ""))
	before := slices.Clone(long)
	l := long[:2]
	query.Search(word("a"), l)
	query.Report([]api.Query{word("a")}, l)
	query.Expand("a", l)
	is(t, long, before)
}
