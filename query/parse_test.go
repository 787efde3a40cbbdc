package query_test

import (
	"math/rand/v2"
	"reflect"
	"strings"
	"testing"

	"paperchase/api"
	"paperchase/query"
)

// P4.4
func TestParse(t *testing.T) {
	a, b, c, d := word("a"), word("b"), word("c"), word("d")
	for text, want := range map[string]api.Query{
		"a":                       a,
		" \n a\n ":                a,
		"A":                       a,
		"sIGn?d*":                 word("sign?d*"),
		"\u00c4b":                 word("\u00c4b"),
		"\xffA":                   word("\xffa"),
		"all":                     all(),
		"ALL":                     all(),
		"alls":                    word("alls"),
		"w":                       word("w"),
		"pre":                     word("pre"),
		"owner":                   word("owner"),
		"9":                       word("9"),
		`"a"`:                     a,
		`" A "`:                   a,
		`"a b"`:                   phrase("a b"),
		`"  a*   B? "`:            phrase("a* b?"),
		`"and or"`:                phrase("and or"),
		"owner:ann":               named(api.FindOwner, "ann"),
		"Owner:ANN-b_1":           named(api.FindOwner, "ann-b_1"),
		"kind:mail":               numbered(api.FindKind, api.ItemMail),
		"kind:FILE":               numbered(api.FindKind, api.ItemFile),
		"kind:box":                numbered(api.FindKind, api.ItemBox),
		"kind:note":               numbered(api.FindKind, api.ItemNote),
		"name:Me?o*":              named(api.FindName, "me?o*"),
		"name:and":                named(api.FindName, "and"),
		"from:0":                  numbered(api.FindFrom, 0),
		"FROM:4000":               numbered(api.FindFrom, 4000),
		"until:17":                numbered(api.FindUntil, 17),
		"a and b":                 and(a, b),
		"a AND b":                 and(a, b),
		"a and b and c":           and(a, b, c),
		"(a and b) and c":         and(and(a, b), c),
		"a and (b and c)":         and(a, and(b, c)),
		"a or b":                  or(a, b),
		"a or b or c":             or(a, b, c),
		"(a or b) or c":           or(or(a, b), c),
		"a or (b or c)":           or(a, or(b, c)),
		"a and b or c":            or(and(a, b), c),
		"a or b and c":            or(a, and(b, c)),
		"a and b or c and d or a": or(and(a, b), and(c, d), a),
		"a and (b or c)":          and(a, or(b, c)),
		"not a":                   not(a),
		"NOT not a":               not(not(a)),
		"not a and b":             and(not(a), b),
		"a and not b":             and(a, not(b)),
		"a or not not b":          or(a, not(not(b))),
		"not (a and b)":           not(and(a, b)),
		"not(a)and(b)":            and(not(a), b),
		"not a w/1 b":             not(near(1, a, b)),
		"not (a) or b":            or(not(a), b),
		"a w/3 b":                 near(3, a, b),
		"a W/0 b":                 near(0, a, b),
		"a PRE/20 b":              pre(20, a, b),
		"a w/3 b pre/2 c":         pre(2, near(3, a, b), c),
		"a pre/3 b w/2 c w/1 d":   near(1, near(2, pre(3, a, b), c), d),
		"a w/3 (b pre/2 c)":       near(3, a, pre(2, b, c)),
		"(a w/3 b) pre/2 c":       pre(2, near(3, a, b), c),
		"a w/1 b and c or d":      or(and(near(1, a, b), c), d),
		"a and b w/1 c":           and(a, near(1, b, c)),
		"a w/1 (b or c)":          near(1, a, or(b, c)),
		"(a or b)w/1(c)":          near(1, or(a, b), c),
		`"a b"w/1"c d"`:           near(1, phrase("a b"), phrase("c d")),
		`not"a b"or"c"`:           or(not(phrase("a b")), c),
		"((a))":                   a,
		"((a) and ((b)))":         and(a, b),
		"(((a and b)))and c":      and(and(a, b), c),
		"(a\nand\n\nb )":          and(a, b),
		"(not (a w/1 b))":         not(near(1, a, b)),
		"not not (not a)":         not(not(not(a))),
		`("Sign* contract" or deal) w/3 friday and not owner:ann`: and(near(3, or(phrase("sign* contract"), word("deal")), word("friday")), not(named(api.FindOwner, "ann"))),
	} {
		is(t, parse(t, text), want)
	}
}

// P4.4
func TestParseErrors(t *testing.T) {
	type row struct {
		text string
		at   int
	}
	for e, rows := range map[api.Errno][]row{
		api.ErrSyntax: {
			// something is missing at the end
			{"", 0}, {"  \n", 3}, {"a and", 5}, {"a and ", 6}, {"a or", 4}, {"not", 3}, {"not not", 7}, {"a w/3", 5}, {"a pre/3 ", 8},
			{"(", 1}, {"(a", 2}, {"(a ", 3}, {"((a)", 4}, {"a and (", 7}, {"(a and", 6},
			// a token that cannot be there
			{"a b", 2}, {"a (b)", 2}, {`a "b c"`, 2}, {"a not b", 2}, {"a all", 2}, {"a owner:b", 2},
			{"and", 0}, {"or a", 0}, {" w/3 a", 1}, {"pre/3 a", 0}, {")", 0}, {"()", 1}, {"( )", 2}, {"a )", 2}, {"a ) b", 2}, {"(a)) and", 3},
			{"a and and b", 6}, {"a or or b", 5}, {"a and or b", 6}, {"not and a", 4}, {"not w/3 a", 4}, {"a w/3 w/3 b", 6}, {"a w/3 and b", 6},
			{"a w/3 not b", 6}, {"a pre/3 not b", 8}, {"a w/3 )", 6}, {"(a and) b", 6}, {"(a b)", 3}, {"(not) a", 4}, {"(w/3 a)", 1}, {"a (", 2},
			{"a or b c", 7}, {"((a) b)", 5},
			// a piece without a form
			{"A-b", 0}, {"a and b-c", 6}, {"?", 0}, {"*a", 0}, {"a**", 0}, {"a\tb", 0}, {"a\u00a0b and a.", 9}, {xs(api.MaxWord + 1), 0}, {"a and\x00", 2},
			{"w/", 0}, {"a w/ b", 2}, {"a w/x b", 2}, {"a w/-1 b", 2}, {"a w/03 b", 2}, {"a w/+3 b", 2}, {"a w/1000000 b", 2}, {"a w/3/4 b", 2}, {"a v/3 b", 2}, {"a pre/ b", 2}, {"a pre/00 b", 2}, {"a /3 b", 2}, {"a w/3) b", 5},
			{"owner:", 0}, {"owner:9", 0}, {"owner:a*", 0}, {"owner:\u00e9", 0}, {"owner: ann", 0}, {"owner:ann:b", 0}, {"owner:x" + xs(api.MaxName), 0}, {`owner:"ann"`, 0},
			{"kind:", 0}, {"kind:mails", 0}, {"kind:1", 0}, {"name:", 0}, {"name:?", 0}, {"name:a-b", 0}, {`name:"a b"`, 0}, {"name:" + xs(api.MaxWord+1), 0},
			{"from:", 0}, {"from:-1", 0}, {"from:01", 0}, {"from:1000000", 0}, {"from:a", 0}, {"until:", 0}, {"until:-0", 0}, {"until:1 000", 8}, {"at:5", 0}, {":", 0}, {"/", 0}, {"all:a", 0},
			// phrases without a form
			{`"a b`, 0}, {`"`, 0}, {`a and "b`, 6}, {`a "b`, 2}, {`"a" "`, 4}, {`""`, 0}, {`" "`, 0}, {`a or "" b`, 5}, {`"a-b"`, 0}, {`"a b.c"`, 0}, {`"a ?"`, 0}, {"\"a\nb\"", 0}, {"\"a\tb\"", 0}, {`"a (b)"`, 0}, {`"w/3 a"`, 0}, {`"` + xs(api.MaxWord+1) + `"`, 0},
			// the first one from the left
			{"a b-c (", 2}, {"a and -) \"", 6}, {`) "`, 0},
			// and before Check's
			{`"and" or a-b`, 9}, {"a w/500 b )", 10}, {"a w/3 all and", 13}, {strings.Repeat("not ", 20) + "-", 80},
		},
		api.ErrLarge: {
			{xs(api.MaxText + 1), 0}, {strings.Repeat("(", api.MaxText+1), 0},
			{strings.Repeat("not ", api.MaxInside) + "a", 0},
			{strings.Repeat("not ", api.MaxText/4-1) + "all", 0},
			{"a" + strings.Repeat(" w/1 a", 4), 0},
			{"a" + strings.Repeat(" and a", api.MaxQuery-1), 0},
			{"a" + strings.Repeat(" or not a", api.MaxQuery/2), 0},
			{"a" + strings.Repeat(" or a", (api.MaxText-1)/5), 0},
		},
		api.ErrType: {{"a w/3 (b and c)", 0}, {"all w/3 a", 0}, {"a pre/1 (not b)", 0}, {"a w/1 (b or c and d)", 0}, {"owner:ann w/5 b", 0}},
		api.ErrForm: {{`"` + strings.Repeat("a ", api.MaxWords+1) + `"`, 0}},
		api.ErrName: {{`"all"`, 0}, {`"and"`, 0}, {`a or "OR"`, 0}, {`not " not "`, 0}},
		api.ErrArg:  {{"a w/500 b", 0}, {"a w/21 b", 0}, {"a pre/999999 b", 0}, {"from:4001", 0}, {"not until:999999", 0}, {"all w/500 b", 0}},
	} {
		for _, x := range rows {
			q, at, got := query.Parse(x.text)
			fails(t, got, e, q)
			if at != x.at {
				t.Errorf("%.40q: error %d at %d, want it at %d", x.text, got, at, x.at)
			}
		}
	}
}

// P4.4, Z1: parentheses are no searches, so that there can be any number of them.
func TestParseManyParentheses(t *testing.T) {
	many := (api.MaxText - 1) / 2
	is(t, parse(t, strings.Repeat("(", many)+"a"+strings.Repeat(")", many)), word("a"))
	for text, want := range map[string]int{
		strings.Repeat("(", api.MaxText):                                api.MaxText,
		strings.Repeat("(", many) + "a" + strings.Repeat(")", many-1):   2 * many,
		strings.Repeat("(", many) + ")":                                 many,
		strings.Repeat("(", many-1) + "a" + strings.Repeat(")", many+1): 2*many - 1,
	} {
		q, at, e := query.Parse(text)
		fails(t, e, api.ErrSyntax, q)
		is(t, at, want)
	}
}

// P4.4, Z1: of any string.
func TestParseOfAnything(t *testing.T) {
	r := rand.New(rand.NewPCG(4, 5))
	right := 0
	for range 30_000 {
		var l []string
		for range 1 + r.IntN(8) {
			l = append(l, pick(r, "a", "b", "b", "and", "or", "not", "(", ")", "w/1", "pre/1", `"a b"`, `"`, "all", "a-"))
		}
		text := strings.Join(l, pick(r, " ", "\n"))
		q, at, e := query.Parse(text)
		switch e {
		case api.OK:
			right++
			is(t, at, 0)
			is(t, query.Check(q), api.OK)
			is(t, parse(t, print(t, q)), q)
		case api.ErrSyntax:
			fails(t, e, e, q)
			// what is before can begin a search: if something is missing, then at its end
			if _, before, e := query.Parse(text[:at]); e == api.ErrSyntax && before < at {
				t.Errorf("%q: %d, but %d", text, at, before)
			}
		default:
			fails(t, e, e, q, at)
		}
	}
	if right < 1_000 {
		t.Errorf("only %d are right", right)
	}
}

// P4.4
func TestPrint(t *testing.T) {
	a, b, c := word("a"), word("b*"), word("c")
	for want, q := range map[string]api.Query{
		"all":                                  all(),
		"sign?d*":                              word("sign?d*"),
		`"a and b?"`:                           phrase("a and b?"),
		"a w/0 b*":                             near(0, a, b),
		"a pre/20 b*":                          pre(20, a, b),
		"a w/1 b* w/2 c pre/3 a":               pre(3, near(2, near(1, a, b), c), a),
		"a w/1 (b* w/2 c)":                     near(1, a, near(2, b, c)),
		"a pre/1 (b* pre/2 c)":                 pre(1, a, pre(2, b, c)),
		"a w/1 (b* pre/2 c)":                   near(1, a, pre(2, b, c)),
		"(a or b*) w/1 (b* or c)":              near(1, or(a, b), or(b, c)),
		"(a or b* w/2 c) pre/1 c":              pre(1, or(a, near(2, b, c)), c),
		`"a b" w/1 "b c"`:                      near(1, phrase("a b"), phrase("b c")),
		"a and b* and c":                       and(a, b, c),
		"(a and b*) and c":                     and(and(a, b), c),
		"a and (b* and c)":                     and(a, and(b, c)),
		"(a or b*) and not c":                  and(or(a, b), not(c)),
		"a or b* or c":                         or(a, b, c),
		"(a or b*) or c":                       or(or(a, b), c),
		"a or b* and c":                        or(a, and(b, c)),
		"not a or not not c":                   or(not(a), not(not(c))),
		"not (a and c)":                        not(and(a, c)),
		"not (a or c)":                         not(or(a, c)),
		"not a w/1 c":                          not(near(1, a, c)),
		"not a w/1 (b* or c) and c or all":     or(and(not(near(1, a, or(b, c))), c), all()),
		"owner:ann-b_1":                        named(api.FindOwner, "ann-b_1"),
		"kind:mail or kind:file":               or(numbered(api.FindKind, 1), numbered(api.FindKind, 2)),
		"kind:box and kind:note":               and(numbered(api.FindKind, 3), numbered(api.FindKind, 4)),
		"name:or":                              named(api.FindName, "or"),
		"from:0 and until:4000":                and(numbered(api.FindFrom, 0), numbered(api.FindUntil, 4000)),
		"not (not (a and c) and c) and from:9": and(not(and(not(and(a, c)), c)), numbered(api.FindFrom, 9)),
	} {
		is(t, print(t, q), want)
		is(t, parse(t, want), q)
	}
	// the longest one
	long := phrase(strings.Repeat(xs(api.MaxWord)+" ", api.MaxWords))
	q := or()
	for range api.MaxQuery - 1 {
		q.Args = append(q.Args, long)
	}
	is(t, parse(t, print(t, q)), q)
}

// P4.4
func TestPrintErrors(t *testing.T) {
	eachBadQuery(t, func(q api.Query) (any, api.Errno) { return query.Print(q) })
}

// P4.4: Parse of Print is the same search, and none of the parentheses can be left out.
func TestPrintOfAnything(t *testing.T) {
	r := rand.New(rand.NewPCG(4, 6))
	for range 5_000 {
		q := randomQuery(r)
		s := print(t, q)
		is(t, parse(t, s), q)
		var open []int
		for i := range len(s) {
			switch s[i] {
			case '(':
				open = append(open, i)
			case ')':
				from := open[len(open)-1]
				open = open[:len(open)-1]
				other, _, e := query.Parse(s[:from] + s[from+1:i] + s[i+1:])
				if e == api.OK && reflect.DeepEqual(other, q) {
					t.Errorf("%s: parentheses at %d", s, from)
				}
			}
		}
	}
}
