package query_test

import (
	"math"
	"math/rand/v2"
	"strings"
	"testing"

	"paperchase/api"
	"paperchase/query"
)

// hitNumbers returns which words of an item Hits returns.
func hitNumbers(t *testing.T, q api.Query, x api.Item) []int {
	t.Helper()
	spans, e := query.Hits(q, x)
	is(t, e, api.OK)
	var l []int
	for i, w := range query.Words(x.Text) {
		if len(spans) > 0 && spans[0] == w.Span {
			l = append(l, i)
			spans = spans[1:]
		}
	}
	// each span is that of a word, in order, once
	is(t, spans, []api.Span{})
	return l
}

func expectHits(t *testing.T, x api.Item, s, want string) {
	t.Helper()
	spans, e := query.Hits(parse(t, s), x)
	is(t, e, api.OK)
	var l []string
	for _, s := range spans {
		l = append(l, x.Text[s.From:s.To])
	}
	if strings.Join(l, " ") != want {
		t.Errorf("%s: got %v, want %s", s, l, want)
	}
}

// P4.3
func TestHits(t *testing.T) {
	x := item("m", "The deal is for Friday.\nA Deal is a deal!\n")
	for s, want := range map[string]string{
		`("sign* contract" or deal) w/3 friday and not owner:bob`: "deal Friday Deal",
		"deal":                     "deal Deal deal",
		"lunch":                    "",
		`"deal is"`:                "deal is Deal is",
		`"deal is" or "is a"`:      "deal is Deal is a",
		`"the d* is"`:              "The deal is",
		"deal pre/0 is":            "deal is Deal is",
		"the w/20 friday":          "The Friday",
		"friday w/20 the":          "The Friday",
		"friday pre/20 the":        "",
		"a w/0 deal":               "A Deal a deal",
		"a pre/0 deal and the":     "The A Deal a deal",
		"a or lunch":               "A a",
		"(a and lunch) or the":     "The",
		"(a and lunch) or all":     "",
		"a and lunch":              "",
		"not lunch":                "",
		"not not the":              "",
		"not lunch and the":        "The",
		"all":                      "",
		"all and name:deal":        "",
		"owner:ann and kind:mail":  "",
		"from:0 or until:0 or the": "The",
		// only words that belong to a place
		"(is w/0 for) w/0 friday":                    "is for Friday",
		"(deal w/1 for) w/0 friday":                  "deal for Friday",
		"(deal w/0 is or is) pre/1 friday":           "deal is Friday",
		"(deal or the) pre/2 friday":                 "deal Friday",
		"(deal pre/1 a) pre/0 deal":                  "Deal a deal",
		`("a deal" or deal) pre/1 a`:                 "A Deal a",
		"(for pre/2 deal or friday) pre/0 (a or is)": "for Friday A Deal is",
	} {
		expectHits(t, x, s, want)
	}
	// a place that can be made in several ways has the marks of all
	x = item("m", "a b b c\n")
	expectHits(t, x, "(a pre/1 b) pre/1 c", "a b b c")
	expectHits(t, x, "(a pre/1 b) pre/0 c", "a b c")
	expectHits(t, x, "(a pre/0 b) pre/1 c", "a b c")
	// and of a FindOr only those Args count that have the place
	x = item("m", "a b c a x c\n")
	expectHits(t, x, `("a b c" or a pre/1 c) pre/0 a`, "a b c a")
	expectHits(t, x, `(a pre/1 c or lunch) pre/0 a`, "a c a")
	expectHits(t, x, `"c a x" or ("a b c" or a pre/1 c) pre/0 a`, "a b c a x")
}

// P4.3
func TestHitsErrors(t *testing.T) {
	eachBadQuery(t, func(q api.Query) (any, api.Errno) { return query.Hits(q, item("A", "")) })
	eachBadItem(t, func(x api.Item) (any, api.Errno) { return query.Hits(all(), x) })
}

// P4.3: against the document, word by word.
func TestHitsOfAnything(t *testing.T) {
	r := rand.New(rand.NewPCG(4, 4))
	for range 3_000 {
		q, x := randomQuery(r), randomItem(r, "m")
		is(t, hitNumbers(t, q, x), sorted(hitsOf(q, x)))
	}
}

func expectSnippet(t *testing.T, x api.Item, s string, around int, want string) {
	t.Helper()
	got, e := query.Snippet(parse(t, s), x, around)
	is(t, e, api.OK)
	is(t, got, want)
}

// P4.6
func TestSnippet(t *testing.T) {
	x := item("m", "\"The deal\n\n is, for  Friday.\nA deal!\n")
	expectSnippet(t, x, "deal", 1, "The [deal]   is")
	expectSnippet(t, x, "deal", 0, "[deal]")
	expectSnippet(t, x, "deal", 2, "The [deal]   is, for")
	expectSnippet(t, x, "deal", 20, "The [deal]   is, for  Friday. A deal")
	expectSnippet(t, x, "the", 1, "[The] deal")
	expectSnippet(t, x, "a pre/0 deal", 1, "Friday. [A] deal")
	expectSnippet(t, x, `"for friday"`, 1, "is, [for]  Friday")
	expectSnippet(t, x, "friday w/3 a", 2, "is, for  [Friday]. A deal")
	expectSnippet(t, x, "a and is", 0, "[is]")
	expectSnippet(t, x, "lunch", 3, "")
	expectSnippet(t, x, "all", 3, "")
	expectSnippet(t, x, "not lunch", 3, "")
	expectSnippet(t, item("m", ""), "all", 3, "")
	expectSnippet(t, item("m", "a\n"), "a", 3, "[a]")
	expectSnippet(t, item("m", "\u00e9 [a] \u00e9\n"), "a", 1, "\u00e9 [[a]] \u00e9")
	long := strings.Repeat("x ", 30) + "a" + strings.Repeat(" x", 30) + "\n"
	expectSnippet(t, item("m", long), "a", 20, strings.Repeat("x ", 20)+"[a]"+strings.Repeat(" x", 20))
}

// P4.6
func TestSnippetErrors(t *testing.T) {
	eachBadQuery(t, func(q api.Query) (any, api.Errno) { return query.Snippet(q, item("A", ""), -1) })
	eachBadItem(t, func(x api.Item) (any, api.Errno) { return query.Snippet(all(), x, -1) })
	for _, around := range []int{-1, 21, math.MinInt, math.MaxInt} {
		for _, text := range []string{"a\n", ""} {
			s, e := query.Snippet(word("a"), item("m", text), around)
			fails(t, e, api.ErrArg, s)
		}
	}
}
