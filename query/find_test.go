package query_test

import (
	"math/rand/v2"
	"slices"
	"strings"
	"testing"

	"paperchase/api"
	"paperchase/query"
)

func matches(t *testing.T, q api.Query, x api.Item) bool {
	t.Helper()
	ok, e := query.Matches(q, x)
	is(t, e, api.OK)
	return ok
}

func expectMatches(t *testing.T, x api.Item, want bool, searches ...string) {
	t.Helper()
	for _, s := range searches {
		if matches(t, parse(t, s), x) != want {
			t.Errorf("%s: not %v", s, want)
		}
	}
}

// P4.2
func TestMatches(t *testing.T) {
	x := api.Item{Id: "m", Custodian: "bob", Kind: api.ItemBox, Name: "Deal memo, 2nd", At: 3*api.DayLong + 7, Text: "The deal is for Friday.\nA Deal!\n"}
	expectMatches(t, x, true,
		"all", "deal", "DEAL", "fri*", "d??l", "a", "not lunch", "not not deal",
		`"the deal"`, `"friday a deal"`, `"t?e d* is for"`,
		"deal and friday", "deal and friday and all", "deal or lunch", "lunch or not lunch", "lunch or deal and is",
		"owner:bob", "kind:box", "name:deal", "name:me?o", "name:2*",
		"from:0", "from:3", "until:3", "until:4000", "from:3 and until:3",
		"not (lunch or dinner)", "not lunch and not dinner", "not (deal and lunch)",
		`("sign* contract" or deal) w/3 friday and not owner:ann`,
	)
	expectMatches(t, x, false,
		"not all", "lunch", "dea", "eal", "frid", "friday?", "bob", "memo",
		`"deal the"`, `"the is"`, `"deal friday"`, `"a deal the"`, `"for friday b"`,
		"deal and lunch", "lunch or dinner", "not deal", "not (deal or lunch)",
		"owner:bo", "owner:ann", "kind:mail", "kind:file", "kind:note", "name:friday", "name:mem",
		"from:4", "until:2", "from:4000", "until:0",
	)
	x = item("m", "")
	x.Name = ""
	expectMatches(t, x, true, "all", "not a", "not (a w/3 b)", "owner:ann", "not name:a*")
	expectMatches(t, x, false, "a", `"a b"`, "a w/20 b", "a pre/20 b", "a or b", "name:a*")
	x.At = api.End - 1
	expectMatches(t, x, true, "from:4000", "until:4000")
	x.At = 4*api.DayLong - 1
	expectMatches(t, x, true, "from:3", "until:3")
	expectMatches(t, x, false, "from:4", "until:2")
}

// P4.3
func TestNearness(t *testing.T) {
	x := item("m", "The deal is for Friday.\n")
	expectMatches(t, x, true, "deal w/2 friday", "friday w/2 deal", "deal pre/2 friday", "deal w/20 friday", "the w/0 deal", "deal w/0 the", "the pre/0 deal")
	expectMatches(t, x, false, "deal w/1 friday", "friday w/1 deal", "deal pre/1 friday", "friday pre/20 deal", "the w/0 is", "deal pre/0 the",
		"deal w/20 deal", "deal pre/20 deal", `"the deal" w/20 "deal is"`, "d* w/20 d?al")
	expectMatches(t, x, true, `"the deal" w/0 "is for"`, `"is for" w/0 "the deal"`, `"the deal" pre/1 for`, `(lunch or "deal is") w/1 friday`,
		"(the w/0 deal) pre/2 friday", "the pre/0 deal pre/0 is", "the pre/1 (deal w/1 for)", "(the w/1 is) w/0 for", "(the w/0 is or is) w/0 deal")
	expectMatches(t, x, false, `"the deal" pre/1 friday`, `("deal is" or lunch) pre/0 friday`,
		"(the w/1 is) w/20 deal",           // deal is within the place of the first one
		"(the w/2 for) w/20 (deal w/0 is)", // one within the other
		"(the w/1 is) w/20 (deal w/1 for)", // they overlap
		"friday w/20 (the pre/0 is)",
	)
	// a word can be nearer to another one than the first one that is found
	x = item("m", "a x x a b x x b\n")
	expectMatches(t, x, true, "a w/0 b", "a pre/3 b", "(a w/2 a) w/0 b", "(a w/2 a) pre/3 b", "(a w/3 b) w/2 b", "(a w/2 a) w/0 (b w/2 b)")
	expectMatches(t, x, false, "(a w/1 a) w/20 b", "(b w/2 b) pre/20 a", "(a w/1 b) w/1 a")
	far := "a" + strings.Repeat(" x", api.MaxNear) + " b\n"
	expectMatches(t, item("m", far), true, "a w/20 b", "b w/20 a", "a pre/20 b")
	expectMatches(t, item("m", far), false, "a w/19 b", "b pre/20 a")
	expectMatches(t, item("m", "a"+strings.Repeat(" x", api.MaxNear+1)+" b\n"), false, "a w/20 b", "a pre/20 b")
}

// P4.2, P4.3
func TestMatchesErrors(t *testing.T) {
	eachBadQuery(t, func(q api.Query) (any, api.Errno) { return query.Matches(q, item("A", "")) })
	eachBadItem(t, func(x api.Item) (any, api.Errno) { return query.Matches(all(), x) })
}

// P4.3
func TestSearch(t *testing.T) {
	l := texts("a b\n", "b\n", "", "B, a\n")
	for s, want := range map[string]string{"all": "a b c d", "b": "a b d", "a pre/1 b": "a", "not b": "c", "not all": "", `"b a"`: "d"} {
		ids, e := query.Search(parse(t, s), l)
		is(t, e, api.OK)
		is(t, ids, words(want))
	}
	ids, e := query.Search(all(), nil)
	is(t, e, api.OK)
	is(t, ids, words(""))
	// a family has no part in it
	ids, e = query.Search(parse(t, "b"), []api.Item{item("a", "b\n"), child("a", item("b", ""))})
	is(t, e, api.OK)
	is(t, ids, words("a"))
}

// P4.3
func TestSearchErrors(t *testing.T) {
	wrong := []api.Item{item("A", "")}
	eachBadQuery(t, func(q api.Query) (any, api.Errno) { return query.Search(q, wrong) })
	eachBadList(t, func(l []api.Item) (any, api.Errno) { return query.Search(all(), l) })
}

// P4.2, P4.3: against the document, word by word; and either a search or its FindNot finds an item.
func TestMatchesOfAnything(t *testing.T) {
	r := rand.New(rand.NewPCG(4, 2))
	for range 3_000 {
		q, l := randomQuery(r), randomItems(r)
		var want []string
		for _, x := range l {
			yes := finds(q, x)
			is(t, matches(t, q, x), yes)
			if query.Check(not(q)) == api.OK {
				is(t, matches(t, not(q), x), !yes)
			}
			if yes {
				want = append(want, x.Id)
			}
		}
		ids, e := query.Search(q, l)
		is(t, e, api.OK)
		is(t, ids, want)
	}
}

// P4.3: three levels of places, and phrases of different lengths.
func TestNearnessOfAnything(t *testing.T) {
	r := rand.New(rand.NewPCG(4, 3))
	found := 0
	for range 1_500 {
		q, x := randomWords(r, 3), item("m", randomText(r, 9))
		if query.Check(q) != api.OK {
			continue
		}
		want := finds(q, x)
		if want {
			found++
		}
		is(t, matches(t, q, x), want)
		is(t, hitNumbers(t, q, x), sorted(hitsOf(q, x)))
	}
	if found < 300 {
		t.Errorf("only %d are found", found)
	}
}

// phrased is a Text in which phrases of ten words are as far as can be.
func phrased(apart int, phrases string) string {
	var l []string
	for _, c := range words(phrases) {
		l = append(l, strings.TrimSpace(strings.Repeat(c+" ", api.MaxWords)))
	}
	return strings.Join(l, strings.Repeat(" x", apart)+" ") + "\n"
}

// P4.3: the longest places.
func TestLongestPlaces(t *testing.T) {
	part := func(c string) api.Query { return phrase(strings.Repeat(c+" ", api.MaxWords)) }
	most := api.MaxNear
	two := func(a, b string) api.Query { return near(most, part(a), part(b)) }
	q := near(most, near(most, two("a", "b"), two("c", "d")), near(most, two("e", "f"), two("g", "h")))
	inOrder := phrased(most, "a b c d e f g h")
	x := item("m", inOrder)
	is(t, matches(t, q, x), true)
	var want []int
	for i, w := range wordsOf(inOrder) {
		if w != "x" {
			want = append(want, i)
		}
	}
	is(t, len(want), 8*api.MaxWords)
	is(t, hitNumbers(t, q, x), want)
	is(t, matches(t, q, item("m", phrased(most, "h g e f d c a b"))), true)
	is(t, matches(t, q, item("m", phrased(most, "a b e f c d g h"))), false)
	is(t, matches(t, q, item("m", phrased(most+1, "a b c d e f g h"))), false)
	is(t, matches(t, q, item("m", strings.Replace(inOrder, "d x", "d x x", 1))), false)
}

// P4.3, Z1: all words of the largest Text are places.
func TestManyPlaces(t *testing.T) {
	x := item("m", strings.Repeat("a ", api.MaxBody/2-1)+"a\n")
	a := word("a")
	two := near(api.MaxNear, a, a)
	four := near(api.MaxNear, two, two)
	q := near(api.MaxNear, four, four)
	is(t, matches(t, q, x), true)
	is(t, len(hitNumbers(t, q, x)), api.MaxBody/2)
	is(t, len(hitNumbers(t, or(slices.Repeat([]api.Query{q}, 6)...), x)), api.MaxBody/2)
}
