package query_test

import (
	"cmp"
	"math/rand/v2"
	"slices"
	"testing"

	"paperchase/api"
	"paperchase/query"
)

func order(t *testing.T, a, b api.Query) int {
	t.Helper()
	n, e := query.Order(a, b)
	is(t, e, api.OK)
	return n
}

// P4.5
func TestOrder(t *testing.T) {
	a, b := word("a"), word("b")
	l := []api.Query{
		all(),
		a, word("a*"), word("ab"), b,
		phrase("a a"), phrase("a b"), phrase("a b a"), phrase("b a"),
		near(0, b, b), near(1, a, a), near(1, a, b), near(1, b, a), near(2, a, a),
		pre(0, b, b), pre(20, a, a),
		and(all(), all(), b), and(a, a), and(a, a, a), and(a, b), and(a, not(a)), and(b, a),
		or(a, b), or(b, a),
		not(a), not(b), not(not(a)),
		named(api.FindOwner, "a"), named(api.FindOwner, "b"),
		numbered(api.FindKind, 1), numbered(api.FindKind, 4),
		named(api.FindName, "a"), named(api.FindName, "b"),
		numbered(api.FindFrom, 0), numbered(api.FindFrom, 9), numbered(api.FindFrom, 10),
		numbered(api.FindUntil, 0), numbered(api.FindUntil, 4000),
	}
	for i, x := range l {
		for j, y := range l {
			if got := order(t, x, y); got != cmp.Compare(i, j) {
				t.Errorf("%s, %s: %d", print(t, x), print(t, y), got)
			}
		}
	}
	is(t, order(t, all(), api.Query{Kind: api.FindAll, Words: []string{}, Args: []api.Query{}}), 0)
}

// P4.5
func TestOrderErrors(t *testing.T) {
	eachBadQuery(t, func(q api.Query) (any, api.Errno) { return query.Order(q, all()) })
	eachBadQuery(t, func(q api.Query) (any, api.Errno) { return query.Order(all(), q) })
	eachBadQuery(t, func(q api.Query) (any, api.Errno) { return query.Order(q, numbered(14, 0)) })
	eachBadQuery(t, func(q api.Query) (any, api.Errno) { return query.Order(q, near(1, all(), all())) })
}

func normal(t *testing.T, q api.Query) api.Query {
	t.Helper()
	n, e := query.Normal(q)
	is(t, e, api.OK)
	return n
}

// P4.5
func TestNormal(t *testing.T) {
	for text, want := range map[string]string{
		"all":               "all",
		"a":                 "a",
		`"b a"`:             `"b a"`,
		"owner:ann":         "owner:ann",
		"kind:mail":         "kind:mail",
		"name:a":            "name:a",
		"from:5":            "from:5",
		"not all":           "not all",
		"not a":             "not a",
		"not not a":         "a",
		"not not not a":     "not a",
		"not not (b and a)": "a and b",
		// days
		"not from:5":           "until:4",
		"not from:1":           "until:0",
		"not from:0":           "not from:0",
		"not until:5":          "from:6",
		"not until:3999":       "from:4000",
		"not until:4000":       "not until:4000",
		"not not from:5":       "from:5",
		"not not from:0":       "from:0",
		"not kind:mail":        "not kind:mail",
		"from:6 and until:5":   "not all",
		"from:5 and until:5":   "from:5 and until:5",
		"until:5 or from:6":    "all",
		"from:0 or not from:0": "all",
		// FindAnd
		"b and a":                       "a and b",
		"b and a and b":                 "a and b",
		"a and a":                       "a",
		"b and (c and a)":               "a and b and c",
		"b and (c and (a and b))":       "a and b and c",
		"b and all and a":               "a and b",
		"all and a":                     "a",
		"all and all":                   "all",
		"a and not all":                 "not all",
		"all and not all":               "not all",
		"a and not a":                   "not all",
		"a and b and not a":             "not all",
		"a and (b and not a)":           "not all",
		"(a or b) and not (a or b)":     "(a or b) and not a and not b", // the FindAnd that is not among them: its elements are
		"a and (b or not b)":            "a",
		"a and not (b or c)":            "a and not b and not c",
		"a and not (b and c)":           "a and (not b or not c)",
		"b w/1 a and not (a w/1 b)":     "not all",
		"b pre/1 a and not (a pre/1 b)": "b pre/1 a and not a pre/1 b",
		// FindOr
		"b or a":                     "a or b",
		"a or b or a":                "a or b",
		"a or a":                     "a",
		"b or (c or a)":              "a or b or c",
		"a or all":                   "all",
		"all or not all":             "all",
		"not all or a":               "a",
		"not all or not all":         "not all",
		"a or not a":                 "all",
		"a or b or not a":            "all",
		"a or (b or not a)":          "all",
		"a or b and not b":           "a",
		"a or not (b and c)":         "a or not b or not c",
		"a or not (b or c)":          "a or not b and not c",
		"(a and b) or not (a and b)": "(a and b) or not a or not b",
		// FindNot of these
		"not (a and b)":               "not a or not b",
		"not (a or b)":                "not a and not b",
		"not (a and not b)":           "b or not a",
		"not (a and not (b and c))":   "b and c or not a",
		"not (a or not from:5)":       "not a and from:5",
		"not (a and (b or c and d))":  "(not c or not d) and not b or not a",
		"not (a and a)":               "not a",
		"not (all and all)":           "not all",
		"not (a and not all)":         "all",
		"not (a or (not b or not c))": "b and c and not a",
		// within FindNear and FindPre
		"b w/2 a":                         "a w/2 b",
		"b pre/2 a":                       "b pre/2 a",
		"a w/1 b w/1 c":                   "c w/1 (a w/1 b)",
		"(b or a or b) w/1 c":             "c w/1 (a or b)",
		"(b or (c or a)) pre/1 d":         "(a or b or c) pre/1 d",
		"(a or a) pre/1 b":                "a pre/1 b",
		"(b w/1 a or a w/1 b) pre/1 c":    "a w/1 b pre/1 c",
		`("b a" or c) w/1 ("b a" or c)`:   `(c or "b a") w/1 (c or "b a")`,
		"not (b w/2 a)":                   "not a w/2 b",
		"not ((b or a) w/2 c)":            "not c w/2 (a or b)",
		"not ((a or b) and (b or a))":     "not a and not b",
		"a or (b or c) w/1 (c or b or c)": "a or (b or c) w/1 (b or c)",
	} {
		n := normal(t, parse(t, text))
		if got := print(t, n); got != print(t, parse(t, want)) || order(t, n, parse(t, want)) != 0 {
			t.Errorf("%s: got %s, want %s", text, got, want)
		}
		is(t, normal(t, n), n)
	}
}

// P4.5
func TestOpposite(t *testing.T) {
	for text, want := range map[string]string{
		"all":           "not all",
		"not all":       "all",
		"a":             "not a",
		"not a":         "a",
		"not not b":     "not b",
		"a and b":       "not a or not b",
		"b or a":        "not a and not b",
		"from:5":        "until:4",
		"until:5":       "from:6",
		"from:0":        "not from:0",
		"until:4000":    "not until:4000",
		"b w/1 a":       "not a w/1 b",
		"a or not a":    "not all",
		"b and b":       "not b",
		`"a b" and all`: `not "a b"`,
	} {
		q, e := query.Opposite(parse(t, text))
		is(t, e, api.OK)
		is(t, print(t, q), want)
	}
}

// P4.5
func TestNormalErrors(t *testing.T) {
	eachBadQuery(t, func(q api.Query) (any, api.Errno) { return query.Normal(q) })
	eachBadQuery(t, func(q api.Query) (any, api.Errno) { return query.Opposite(q) })
	large := func(q api.Query) {
		t.Helper()
		n, e := query.Normal(q)
		fails(t, e, api.ErrLarge, n)
	}
	largeOpposite := func(q api.Query) {
		t.Helper()
		n, e := query.Opposite(q)
		fails(t, e, api.ErrLarge, n)
	}
	half := api.MaxQuery / 2
	// how many there are
	n := normal(t, not(and(list(half-1)...)))
	is(t, len(n.Args), half-1)
	large(not(and(list(half)...)))
	large(not(or(list(api.MaxQuery - 2)...)))
	is(t, normal(t, or(list(api.MaxQuery-1)...)), or(list(api.MaxQuery-1)...))
	is(t, normal(t, not(and(slices.Repeat(list(1), api.MaxQuery-2)...))), not(list(1)[0]))
	n, e := query.Opposite(and(list(half - 1)...))
	is(t, e, api.OK)
	is(t, len(n.Args), half-1)
	largeOpposite(and(list(half)...))
	largeOpposite(or(list(api.MaxQuery - 1)...))
	// FindNot of it is too large, though what it would become is not
	largeOpposite(or(slices.Repeat(list(1), api.MaxQuery-1)...))
	largeOpposite(nots(api.MaxInside-1, all()))
	n, e = query.Opposite(nots(api.MaxInside-2, all()))
	is(t, e, api.OK)
	is(t, n, not(all()))
	// how deep they are
	deep := func(many int) api.Query {
		q := word("a")
		for i := range many {
			q = api.Query{Kind: api.FindAnd + i%2, Args: []api.Query{q, word(name("b", i))}}
		}
		return q
	}
	is(t, query.Check(deep(api.MaxInside-1)), api.OK)
	is(t, query.Check(normal(t, not(deep(api.MaxInside-2)))), api.OK)
	largeOpposite(deep(api.MaxInside - 1))
}

// simple is the negation that the document gives for a normal form, before that is brought to a normal form.
func simple(q api.Query) api.Query {
	var args []api.Query
	for _, arg := range q.Args {
		args = append(args, not(arg))
	}
	switch q.Kind {
	case api.FindAnd:
		return or(args...)
	case api.FindOr:
		return and(args...)
	case api.FindNot:
		return q.Args[0]
	}
	return not(q)
}

// P4.5: a search and its normal form find the same, Opposite finds the rest, and Normal of a normal form is itself.
func TestNormalOfAnything(t *testing.T) {
	r := rand.New(rand.NewPCG(4, 7))
	for range 5_000 {
		q := randomQuery(r)
		n, e := query.Normal(q)
		o, oe := query.Opposite(q)
		if e != api.OK {
			fails(t, e, api.ErrLarge, n)
			continue
		}
		if oe != api.OK {
			fails(t, oe, api.ErrLarge, o)
			continue
		}
		is(t, query.Check(n), api.OK)
		is(t, normal(t, n), n)
		is(t, normal(t, o), o)
		again, e := query.Opposite(o)
		if e == api.OK {
			is(t, again, n)
		}
		if s := simple(n); query.Check(s) == api.OK {
			is(t, normal(t, s), o)
		}
		for range 5 {
			x := randomItem(r, "m")
			yes := matches(t, q, x)
			is(t, matches(t, n, x), yes)
			is(t, matches(t, o, x), !yes)
		}
	}
}

// P4.5: neither the order of elements nor how often they occur matters.
func TestNormalOfMixed(t *testing.T) {
	r := rand.New(rand.NewPCG(4, 8))
	var mixed func(q api.Query) api.Query
	mixed = func(q api.Query) api.Query {
		var args []api.Query
		for _, arg := range q.Args {
			args = append(args, mixed(arg))
		}
		q.Args = args
		switch q.Kind {
		case api.FindAnd, api.FindOr:
			q.Args = append(q.Args, args[r.IntN(len(args))])
			fallthrough
		case api.FindNear:
			r.Shuffle(len(q.Args), func(i, j int) { q.Args[i], q.Args[j] = q.Args[j], q.Args[i] })
		}
		return q
	}
	for range 3_000 {
		q := randomQuery(r)
		other := mixed(q)
		n, e := query.Normal(q)
		if e == api.OK && query.Check(other) == api.OK {
			is(t, normal(t, other), n)
		}
	}
}

// P4.5, Z2: results are new.
func TestNormalIsNew(t *testing.T) {
	q := parse(t, `"b a" and (c or d) w/1 e and not f`)
	n := normal(t, q)
	var spoil func(q api.Query)
	spoil = func(q api.Query) {
		for i := range q.Words {
			q.Words[i] = "changed"
		}
		for i := range q.Args {
			spoil(q.Args[i])
			q.Args[i] = all()
		}
	}
	spoil(n)
	is(t, q, parse(t, `"b a" and (c or d) w/1 e and not f`))
	o, _ := query.Opposite(q)
	spoil(o)
	is(t, q, parse(t, `"b a" and (c or d) w/1 e and not f`))
	n = normal(t, word("a"))
	spoil(n)
	is(t, normal(t, word("a")), word("a"))
}
