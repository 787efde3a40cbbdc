package near_test

import (
	"cmp"
	"math"
	"math/rand/v2"
	"slices"
	"strings"
	"testing"

	"paperchase/api"
	"paperchase/near"
)

func catalog(t *testing.T, k int, l ...api.Body) *near.Catalog {
	t.Helper()
	c, e := near.New(k)
	is(t, e, api.OK)
	for _, b := range l {
		is(t, c.Add(b), api.OK)
	}
	return c
}

func match(id string, num, den int) api.Match { return api.Match{Id: id, Like: fraction(num, den)} }

func expectNear(t *testing.T, c *near.Catalog, text string, least int, want ...api.Match) {
	t.Helper()
	l, e := c.Near(text, least)
	is(t, e, api.OK)
	is(t, l, want)
}

// P3.8
func TestNew(t *testing.T) {
	for _, k := range badRuns {
		c, e := near.New(k)
		fails(t, e, api.ErrArg, c)
	}
	for _, k := range []int{1, 10} {
		c := catalog(t, k)
		is(t, c.Ids(), []string{})
		expectNear(t, c, "a", 1)
		is(t, c.Remove("a"), api.ErrNone)
	}
}

// P3.8
func TestCatalog(t *testing.T) {
	c := catalog(t, 2, api.Body{Id: "z", Text: "q r"}, api.Body{Id: "x", Text: "a b c"}, api.Body{Id: "y", Text: "A B C d"}, api.Body{Id: "e"})
	is(t, c.Ids(), words("e x y z"))
	expectNear(t, c, "a b c d", 50, match("y", 1, 1), match("x", 2, 3))
	expectNear(t, c, "a b c d", 67, match("y", 1, 1))
	expectNear(t, c, "a b c d", 66, match("y", 1, 1), match("x", 2, 3))
	expectNear(t, c, "a b d", 1, match("x", 1, 3), match("y", 1, 4))
	expectNear(t, c, "r q", 1)
	expectNear(t, c, "?", 1, match("e", 1, 1))
	is(t, c.Add(api.Body{Id: "b", Text: "d, a b c"}), api.OK)
	expectNear(t, c, "a b c", 1, match("x", 1, 1), match("b", 2, 3), match("y", 2, 3))
	is(t, c.Remove("x"), api.OK)
	is(t, c.Remove("x"), api.ErrNone)
	is(t, c.Remove("xx"), api.ErrNone)
	is(t, c.Ids(), words("b e y z"))
	expectNear(t, c, "a b c", 1, match("b", 2, 3), match("y", 2, 3))
	is(t, c.Add(api.Body{Id: "x", Text: "c"}), api.OK)
	expectNear(t, c, "a b c", 1, match("b", 2, 3), match("y", 2, 3))
	expectNear(t, c, "c", 100, match("x", 1, 1))
}

// P3.8
func TestCatalogAddErrors(t *testing.T) {
	c := catalog(t, 1, bodies("x", "y")...)
	large := xs(api.MaxBody + 1)
	for _, x := range []struct {
		e api.Errno
		b api.Body
	}{
		{api.ErrName, api.Body{}},
		{api.ErrName, api.Body{Id: "A", Text: large}},
		{api.ErrName, api.Body{Id: xs(api.MaxName + 1)}},
		{api.ErrLarge, api.Body{Id: "a", Text: large}},
		{api.ErrLarge, api.Body{Id: "c", Text: large}},
		{api.ErrTwice, api.Body{Id: "a", Text: "x"}},
		{api.ErrTwice, api.Body{Id: "b"}},
	} {
		is(t, c.Add(x.b), x.e)
		is(t, c.Ids(), words("a b"))
		expectNear(t, c, "x", 1, match("a", 1, 1))
	}
}

// P3.8
func TestCatalogFull(t *testing.T) {
	c := catalog(t, 10, alike(api.MaxBodies, "")...)
	is(t, c.Add(api.Body{Id: "more"}), api.ErrFull)
	is(t, c.Add(api.Body{Id: "d000000"}), api.ErrTwice)
	is(t, len(c.Ids()), api.MaxBodies)
	is(t, c.Remove("d000000"), api.OK)
	is(t, c.Add(api.Body{Id: "more"}), api.OK)
	is(t, c.Add(api.Body{Id: "d000000"}), api.ErrFull)

	c = catalog(t, 10, alike(24, xs(api.MaxBody))...)
	is(t, c.Add(api.Body{Id: "a", Text: xs(api.MaxBody - 1)}), api.OK)
	is(t, c.Add(api.Body{Id: "b", Text: "xy"}), api.ErrFull)
	is(t, c.Add(api.Body{Id: "a", Text: "xy"}), api.ErrTwice)
	is(t, c.Add(api.Body{Id: "b", Text: "x"}), api.OK)
	is(t, c.Add(api.Body{Id: "c", Text: ""}), api.OK)
	is(t, c.Add(api.Body{Id: "d", Text: "x"}), api.ErrFull)
	is(t, c.Remove("b"), api.OK)
	is(t, c.Add(api.Body{Id: "d", Text: "x"}), api.OK)
}

// P3.8
func TestCatalogNearErrors(t *testing.T) {
	c := catalog(t, 1, bodies("x")...)
	large := xs(api.MaxBody + 1)
	for _, least := range []int{0, -1, 101, math.MinInt, math.MaxInt} {
		l, e := c.Near("x", least)
		fails(t, e, api.ErrArg, l)
		l, e = c.Near(large, least)
		fails(t, e, api.ErrLarge, l)
	}
	l, e := c.Near(large, 1)
	fails(t, e, api.ErrLarge, l)
	expectNear(t, c, xs(api.MaxBody), 1)
}

// detour makes a catalog in which there were other documents, too.
func detour(t *testing.T, r *rand.Rand, k int, l []api.Body) *near.Catalog {
	t.Helper()
	c := catalog(t, k)
	for i, b := range l {
		is(t, c.Add(api.Body{Id: name("x", i), Text: randomText(r, 8)}), api.OK)
		is(t, c.Add(api.Body{Id: b.Id, Text: randomText(r, 8)}), api.OK)
		is(t, c.Remove(b.Id), api.OK)
		is(t, c.Add(b), api.OK)
	}
	for i := range l {
		is(t, c.Remove(name("x", i)), api.OK)
	}
	return c
}

// P3.8: against Resemblance; neither the order of Add and Remove matters, nor what was removed again.
func TestCatalogOfAnything(t *testing.T) {
	r := rand.New(rand.NewPCG(3, 8))
	for range 1_000 {
		l, k, least := randomBodies(r), 1+r.IntN(3), 1+r.IntN(100)
		text := randomText(r, 8)
		var want []api.Match
		var ids []string
		for _, b := range l {
			ids = append(ids, b.Id)
			if like := resemblance(t, b.Text, text, k); isAtLeast(like, least) {
				want = append(want, api.Match{Id: b.Id, Like: like})
			}
		}
		slices.Sort(ids)
		slices.SortFunc(want, func(x, y api.Match) int {
			return cmp.Or(greaterFirst(x.Like, y.Like), strings.Compare(x.Id, y.Id))
		})
		straight, roundabout := catalog(t, k, shuffled(r, l)...), detour(t, r, k, shuffled(r, l))
		for _, c := range []*near.Catalog{straight, roundabout} {
			is(t, c.Ids(), ids)
			expectNear(t, c, text, least, want...)
		}
	}
}

// P3.8, Z2: results are new.
func TestCatalogIsNew(t *testing.T) {
	c := catalog(t, 1, bodies("x", "x")...)
	c.Ids()[0] = "changed"
	l, _ := c.Near("x", 1)
	l[0].Id = "changed"
	is(t, c.Ids(), words("a b"))
	expectNear(t, c, "x", 1, match("a", 1, 1), match("b", 1, 1))
}
