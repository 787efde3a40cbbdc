package query_test

import (
	"math/rand/v2"
	"slices"
	"testing"

	"paperchase/api"
	"paperchase/query"
)

func index(t *testing.T, l ...api.Item) *query.Index {
	t.Helper()
	x := query.New()
	for _, i := range l {
		is(t, x.Add(i), api.OK)
	}
	return x
}

func expectIndex(t *testing.T, x *query.Index, search, want string) {
	t.Helper()
	ids, e := x.Search(parse(t, search))
	is(t, e, api.OK)
	is(t, ids, words(want))
}

func expectSize(t *testing.T, x *query.Index, items, different int) {
	t.Helper()
	a, b := x.Size()
	is(t, []int{a, b}, []int{items, different})
}

func expectExpand(t *testing.T, x *query.Index, pattern string, want ...api.Count) {
	t.Helper()
	l, e := x.Expand(pattern)
	is(t, e, api.OK)
	is(t, l, want)
}

// P4.7
func TestIndexEmpty(t *testing.T) {
	x := query.New()
	expectSize(t, x, 0, 0)
	expectIndex(t, x, "all", "")
	expectIndex(t, x, "not a", "")
	expectExpand(t, x, "a*")
	is(t, x.Remove("a"), api.ErrNone)
	is(t, x.Remove(""), api.ErrNone)
}

// P4.7
func TestIndex(t *testing.T) {
	x := index(t, item("m", "deal Deal\n"), item("c", "a deals deal\n"), child("nobody", item("b", "")))
	expectSize(t, x, 3, 3)
	expectIndex(t, x, "all", "b c m")
	expectIndex(t, x, "deal*", "c m")
	expectIndex(t, x, "deal", "c m")
	expectIndex(t, x, "deal?", "c")
	expectIndex(t, x, `"deal deal"`, "m")
	expectIndex(t, x, `"deal* deal"`, "c m")
	expectIndex(t, x, "deal pre/0 deal", "m")
	expectIndex(t, x, "deal w/20 a", "c")
	expectIndex(t, x, "a pre/0 deal", "")
	expectIndex(t, x, "a pre/0 deal*", "c")
	expectIndex(t, x, "not deal", "b")
	expectIndex(t, x, "name:deal and kind:mail and owner:ann and from:3 and until:3", "b c m")
	expectIndex(t, x, "lunch or not deals", "b m")
	expectExpand(t, x, "d*", counts("deal", 2, "deals", 1)...)
	expectExpand(t, x, "deal", counts("deal", 2)...)
	expectExpand(t, x, "x*")

	is(t, x.Remove("c"), api.OK)
	is(t, x.Remove("c"), api.ErrNone)
	expectSize(t, x, 2, 1)
	expectIndex(t, x, "deal*", "m")
	expectIndex(t, x, "a", "")
	expectIndex(t, x, "all", "b m")
	expectExpand(t, x, "d*", counts("deal", 1)...)
	is(t, x.Remove("b"), api.OK)
	expectSize(t, x, 1, 1)
	// the same Id with another Text
	is(t, x.Remove("m"), api.OK)
	expectSize(t, x, 0, 0)
	is(t, x.Add(item("m", "lunch\n")), api.OK)
	expectSize(t, x, 1, 1)
	expectIndex(t, x, "deal", "")
	expectIndex(t, x, "lunch", "m")
}

// P4.7
func TestIndexErrors(t *testing.T) {
	x := index(t, item("a", "x y\n"))
	same := func() {
		t.Helper()
		expectSize(t, x, 1, 2)
		expectIndex(t, x, "all", "a")
		expectIndex(t, x, "y", "a")
		expectExpand(t, x, "z*")
	}
	eachBadItem(t, func(i api.Item) (any, api.Errno) { return 0, x.Add(i) })
	same()
	is(t, x.Add(item("a", "x y\n")), api.ErrTwice)
	is(t, x.Add(item("a", "z\n")), api.ErrTwice)
	wrong := item("a", "z\n")
	wrong.At = -1
	is(t, x.Add(wrong), api.ErrArg)
	same()
	is(t, x.Remove("b"), api.ErrNone)
	is(t, x.Remove("A"), api.ErrNone)
	same()
	eachBadQuery(t, func(q api.Query) (any, api.Errno) { return x.Search(q) })
	for _, pattern := range []string{"", "*", "?x", "A", "a b", xs(api.MaxWord + 1)} {
		l, e := x.Expand(pattern)
		fails(t, e, api.ErrName, l)
	}
	same()
}

// P4.7
func TestIndexFull(t *testing.T) {
	x := query.New()
	for i := range api.MaxItems {
		is(t, x.Add(item(name("m", i), name("w", i)+" x\n")), api.OK)
	}
	expectSize(t, x, api.MaxItems, api.MaxItems+1)
	is(t, x.Add(item("more", "z\n")), api.ErrFull)
	is(t, x.Add(item(name("m", 1), "z\n")), api.ErrTwice)
	is(t, x.Add(item("More", "z\n")), api.ErrName)
	expectSize(t, x, api.MaxItems, api.MaxItems+1)
	is(t, x.Remove(name("m", 1)), api.OK)
	is(t, x.Add(item("more", "z\n")), api.OK)
	is(t, x.Add(item(name("m", 1), "z\n")), api.ErrFull)
	expectSize(t, x, api.MaxItems, api.MaxItems+1)
	expectIndex(t, x, "z", "more")
	expectExpand(t, x, "x", counts("x", api.MaxItems-1)...)
}

// detour makes an index in which there were other items, too.
func detour(t *testing.T, r *rand.Rand, l []api.Item) *query.Index {
	t.Helper()
	x := query.New()
	for i, item := range l {
		is(t, x.Add(randomItem(r, name("x", i))), api.OK)
		is(t, x.Add(randomItem(r, item.Id)), api.OK)
		is(t, x.Remove(item.Id), api.OK)
		is(t, x.Add(item), api.OK)
	}
	for i := range l {
		is(t, x.Remove(name("x", i)), api.OK)
	}
	return x
}

// P4.7: against Search and Expand; neither the order of Add and Remove matters, nor what was taken away again.
func TestIndexOfAnything(t *testing.T) {
	r := rand.New(rand.NewPCG(4, 10))
	for range 1_000 {
		l := randomItems(r)
		shuffled := slices.Clone(l)
		r.Shuffle(len(l), func(i, j int) { shuffled[i], shuffled[j] = shuffled[j], shuffled[i] })
		different := map[string]bool{}
		for _, x := range l {
			for _, w := range wordsOf(x.Text) {
				different[w] = true
			}
		}
		for _, x := range []*query.Index{index(t, shuffled...), detour(t, r, shuffled)} {
			expectSize(t, x, len(l), len(different))
			for range 3 {
				q, pattern := randomQuery(r), randomPattern(r)
				got, e := x.Search(q)
				is(t, e, api.OK)
				want, _ := query.Search(q, l)
				is(t, got, want)
				counted, e := x.Expand(pattern)
				is(t, e, api.OK)
				wanted, _ := query.Expand(pattern, l)
				is(t, counted, wanted)
			}
		}
	}
}

// P4.7, Z2: results are new.
func TestIndexIsNew(t *testing.T) {
	x := index(t, item("a", "x\n"), item("b", "x y x\n"))
	ids, _ := x.Search(word("x"))
	ids[0] = "changed"
	l, _ := x.Expand("x*")
	l[0].Word = "changed"
	for range 2 {
		expectIndex(t, x, "x*", "a b")
		expectIndex(t, x, `"x y"`, "b")
		expectIndex(t, x, "x pre/1 x", "b")
		expectExpand(t, x, "x*", counts("x", 2)...)
	}
}
