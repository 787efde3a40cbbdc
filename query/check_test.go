package query_test

import (
	"math"
	"slices"
	"strings"
	"testing"

	"paperchase/api"
	"paperchase/query"
)

// P4.2
func TestCheck(t *testing.T) {
	a, b := word("a"), word("b")
	three := near(1, pre(2, near(3, a, b), b), a)
	for _, q := range []api.Query{
		all(),
		word("sign*"),
		word("all*"), word("an?"), word("nots"), word("w"), word("pre"), word("owner"),
		word(xs(api.MaxWord)),
		phrase("a b"),
		phrase("and or"),
		phrase(strings.Repeat("a ", api.MaxWords)),
		near(0, a, b), near(api.MaxNear, a, a),
		pre(0, phrase("a b"), or(a, b)), pre(api.MaxNear, or(a, or(phrase("a b"), near(1, a, b))), pre(1, a, b)),
		three,
		and(three, or(three, not(three))),
		and(a, a), or(a, a), or(all(), not(a)),
		not(a), not(not(all())),
		named(api.FindOwner, "ann-b_9"), named(api.FindOwner, "and"), named(api.FindOwner, "x"+xs(api.MaxName-1)),
		numbered(api.FindKind, api.ItemMail), numbered(api.FindKind, api.ItemNote),
		named(api.FindName, "or"), named(api.FindName, "a?*"),
		numbered(api.FindFrom, 0), numbered(api.FindFrom, api.MaxDay),
		numbered(api.FindUntil, 0), numbered(api.FindUntil, api.MaxDay),
		nots(api.MaxInside-1, a),
		or(list(api.MaxQuery - 1)...),
		{Kind: api.FindAll, Words: []string{}, Args: []api.Query{}},
	} {
		if e := query.Check(q); e != api.OK {
			t.Errorf("%+v: error %d", q, e)
		}
	}
}

// P4.2
func TestCheckErrors(t *testing.T) {
	a, b := word("a"), word("b")
	three := near(1, pre(2, near(3, a, b), b), a)
	bad := api.Query{}
	with := func(q api.Query, change func(q *api.Query)) api.Query {
		change(&q)
		return q
	}
	number := func(q api.Query) api.Query { return with(q, func(q *api.Query) { q.Number = 1 }) }
	args := func(q api.Query) api.Query { return with(q, func(q *api.Query) { q.Args = []api.Query{a, b} }) }
	oneArg := func(q api.Query) api.Query { return with(q, func(q *api.Query) { q.Args = []api.Query{a} }) }
	strings := func(q api.Query) api.Query { return with(q, func(q *api.Query) { q.Words = []string{"a"} }) }
	for _, c := range []struct {
		e api.Errno
		q []api.Query
	}{
		{api.ErrLarge, []api.Query{
			and(list(api.MaxQuery)...),
			not(and(list(api.MaxQuery - 1)...)),
			or(and(list(api.MaxQuery/2)...), and(list(api.MaxQuery/2)...)),
			nots(api.MaxInside, a),
			and(a, nots(api.MaxInside-1, a)),
			nots(api.MaxInside, bad),
			pre(1, three, a), near(1, a, three),
			near(1, a, or(b, three)),
			near(1, and(not(three), bad), a), // at any depth, and of any form
			and(bad, pre(1, three, a)),
			{Kind: -1, Args: list(api.MaxQuery)},
		}},
		{api.ErrKind, []api.Query{
			bad,
			numbered(-1, 0), numbered(14, 0), numbered(math.MinInt, 0), numbered(math.MaxInt, 0),
			strings(number(args(bad))),
			and(bad, word("?")), and(a, bad),
			near(1, bad, all()),
			near(1, or(a, bad), b),
			not(not(bad)),
			numbered(api.FindKind, 0), numbered(api.FindKind, -1), numbered(api.FindKind, 5), numbered(api.FindKind, math.MaxInt),
		}},
		{api.ErrType, []api.Query{
			near(1, all(), a), near(1, a, and(a, b)), pre(1, a, not(b)),
			pre(1, named(api.FindOwner, "ann"), a), pre(1, named(api.FindName, "a"), a),
			near(1, numbered(api.FindKind, 1), a), near(1, numbered(api.FindFrom, 1), a), near(1, numbered(api.FindUntil, 1), a),
			near(1, or(a, and(a, b)), b), near(1, or(a, or(b, not(a))), b),
			pre(1, pre(1, a, all()), b),
			near(1, number(all()), a),        // before ErrForm
			near(1, all(), word("?")),        // before what comes later
			near(1, and(bad, bad), a),        // from outside in
			and(near(1, a, all()), bad),      // each one through all within
			near(1, or(all(), word("?")), a), // an Arg of a FindOr
		}},
		{api.ErrForm, []api.Query{
			strings(all()), number(all()), args(all()),
			numbered(api.FindWord, 0), phrase(""), {Kind: api.FindWord, Words: words("a b")}, number(a), args(a), args(word("?")),
			phrase("a"), {Kind: api.FindPhrase, Words: slices.Repeat(words("a"), api.MaxWords+1)}, number(phrase("a b")), args(phrase("a b")),
			strings(near(1, a, b)), numbered(api.FindNear, 1), oneArg(near(1, a, b)), {Kind: api.FindNear, Args: list(3)},
			strings(pre(1, a, b)), numbered(api.FindPre, 1), oneArg(pre(1, a, b)), {Kind: api.FindPre, Args: list(3)},
			strings(and(a, b)), number(and(a, b)), and(), and(a), and(bad),
			strings(or(a, b)), number(or(a, b)), or(), or(a), near(1, or(all()), a),
			strings(not(a)), number(not(a)), numbered(api.FindNot, 0), args(not(a)),
			numbered(api.FindOwner, 0), number(named(api.FindOwner, "ann")), args(named(api.FindOwner, "ann")), {Kind: api.FindOwner, Words: words("ann bob")},
			strings(numbered(api.FindKind, 1)), args(numbered(api.FindKind, 9)),
			numbered(api.FindName, 0), number(named(api.FindName, "a")), oneArg(named(api.FindName, "?")), {Kind: api.FindName, Words: words("a b")},
			strings(numbered(api.FindFrom, -1)), args(numbered(api.FindFrom, 1)),
			strings(numbered(api.FindUntil, 1)), args(numbered(api.FindUntil, 1)),
			and(a, and(b)), and(not(strings(all())), bad),
		}},
		{api.ErrName, []api.Query{
			word("all"), word("and"), word("or"), word("not"), word(""), word("?"), word("*"), word("a b"), word("A"), word(xs(api.MaxWord + 1)),
			phrase("a *"), phrase("a b C"), {Kind: api.FindPhrase, Words: []string{"", "a"}},
			named(api.FindOwner, ""), named(api.FindOwner, "9"), named(api.FindOwner, "Ann"), named(api.FindOwner, "a*"), named(api.FindOwner, "\u00e9"), named(api.FindOwner, xs(api.MaxName+1)),
			named(api.FindName, ""), named(api.FindName, "A"), named(api.FindName, "a-b"),
			or(a, word("or")), near(1, word("?"), a),
			and(word("?"), bad),
		}},
		{api.ErrArg, []api.Query{
			near(-1, a, b), near(api.MaxNear+1, a, b), near(-1, word("?"), all()),
			pre(-1, a, b), pre(api.MaxNear+1, a, b), pre(math.MinInt, bad, bad), pre(math.MaxInt, a, b),
			numbered(api.FindFrom, -1), numbered(api.FindFrom, api.MaxDay+1), numbered(api.FindUntil, -1), numbered(api.FindUntil, api.MaxDay+1),
			and(a, not(numbered(api.FindUntil, math.MaxInt)), bad),
		}},
	} {
		for _, q := range c.q {
			if e := query.Check(q); e != c.e {
				t.Errorf("%+v: error %d, want %d", q, e, c.e)
			}
		}
	}
}

// P4.2, Z1: a search that is among its own Args has no end.
func TestCheckOfCircle(t *testing.T) {
	for _, many := range []int{1, 2, 100} {
		q := api.Query{Kind: api.FindAnd, Args: make([]api.Query, many)}
		for i := range q.Args {
			q.Args[i] = q
		}
		is(t, query.Check(q), api.ErrLarge)
	}
}

// P4.2, Z2
func TestKeepsQueries(t *testing.T) {
	l := texts("a b c d\n")
	for _, call := range []func(q api.Query){
		func(q api.Query) { query.Check(q) },
		func(q api.Query) { query.Print(q) },
		func(q api.Query) { query.Order(q, q) },
		func(q api.Query) { query.Normal(q) },
		func(q api.Query) { query.Opposite(q) },
		func(q api.Query) { query.Patterns(q) },
		func(q api.Query) { query.Matches(q, l[0]) },
		func(q api.Query) { query.Hits(q, l[0]) },
		func(q api.Query) { query.Search(q, l) },
		func(q api.Query) { query.Report([]api.Query{q, q}, l) },
		func(q api.Query) { query.Snippet(q, l[0], 1) },
		func(q api.Query) { query.New().Search(q) },
	} {
		keepsQuery(t, call)
	}
}
