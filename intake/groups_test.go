package intake_test

import (
	"slices"
	"strings"
	"testing"

	"paperchase/api"
	"paperchase/intake"
)

// copies has three families that are the same (d, m, p), two others that are (e, x), and one alone (k).
func copies() []api.Item {
	return []api.Item{
		item("c", "zed", api.ItemFile, "p", "in\n"),
		item("d", "cid", api.ItemMail, "", "out\n"),
		item("e", "bob", api.ItemFile, "", "\n"),
		item("f", "bob", api.ItemFile, "d", "in\n"),
		item("k", "ann", api.ItemMail, "", "out\n"),
		item("m", "bob", api.ItemMail, "", "out\n"),
		item("n", "ann", api.ItemFile, "m", "in\n"),
		item("p", "bob", api.ItemMail, "", "out\n"),
		item("x", "ann", api.ItemFile, "", "\n"),
	}
}

func primaries(t *testing.T, l []api.Item, ranks string, each bool) []string {
	t.Helper()
	g, e := intake.Groups(l, words(ranks), each)
	is(t, e, api.OK)
	var ids []string
	for _, x := range g {
		ids = append(ids, x.Primary)
	}
	return ids
}

// P1.4
func TestGroups(t *testing.T) {
	first, _ := intake.FamilySum(copies(), "d")
	second, _ := intake.FamilySum(copies(), "e")
	g, e := intake.Groups(copies(), nil, false)
	is(t, []any{g, e}, []any{[]api.Group{
		{Sum: first, Primary: "d", Tops: words("d m p")},
		{Sum: second, Primary: "e", Tops: words("e x")},
	}, api.OK})
	g, e = intake.Groups(copies(), nil, true)
	is(t, []any{g, e}, []any{[]api.Group{{Sum: first, Primary: "m", Tops: words("m p")}}, api.OK})
	for _, l := range [][]api.Item{nil, list()[:1], mixed()} {
		g, e := intake.Groups(l, nil, false)
		is(t, e, api.OK)
		is(t, g, []api.Group{})
	}
}

// P1.4: the order of groups is that of their first tops, not that of their sums.
func TestGroupsOrder(t *testing.T) {
	for _, texts := range [][]string{{"1\n", "2\n", "3\n", "4\n"}, {"4\n", "3\n", "2\n", "1\n"}} {
		var l []api.Item
		for i := range 8 {
			l = append(l, item(name("g", i), "ann", api.ItemFile, "", texts[i%4]))
		}
		is(t, primaries(t, l, "", false), []string{l[0].Id, l[1].Id, l[2].Id, l[3].Id})
		l[4].Text, l[7].Text = l[7].Text, l[4].Text
		is(t, primaries(t, l, "", false), []string{l[0].Id, l[1].Id, l[2].Id, l[3].Id})
	}
}

// P1.4
func TestPrimary(t *testing.T) {
	is(t, primaries(t, copies(), "bob", false), words("m e"))
	is(t, primaries(t, copies(), "ann bob", false), words("m x"))
	is(t, primaries(t, copies(), "cid bob", false), words("d e"))
	is(t, primaries(t, copies(), "zed", false), words("d e")) // zed has no top
	is(t, primaries(t, copies(), "bob ann cid", true), words("m"))
	l := copies()
	l[7].At = 99 // p
	is(t, primaries(t, l, "", false), words("p e"))
	is(t, primaries(t, l, "cid", false), words("d e"))
	is(t, primaries(t, l, "bob", false), words("p e"))
	l[1].At = 5 // d
	is(t, primaries(t, l, "", false), words("d e"))
	is(t, primaries(t, l, "bob", false), words("p e"))
	is(t, primaries(t, l, "ann", false), words("d x"))
}

// P1.4
func TestRanks(t *testing.T) {
	var ranks []string
	for i := range api.MaxPeople + 1 {
		ranks = append(ranks, name("r", i))
	}
	_, e := intake.Groups(copies(), ranks[1:], false)
	is(t, e, api.OK)
	for _, c := range []struct {
		e     api.Errno
		ranks []string
	}{
		{api.ErrLarge, ranks},
		{api.ErrLarge, slices.Repeat([]string{"?"}, api.MaxPeople+1)},
		{api.ErrName, []string{"ann", ""}},
		{api.ErrName, []string{"ann", "Bob", "ann"}},
		{api.ErrName, []string{strings.Repeat("r", api.MaxName+1)}},
		{api.ErrTwice, []string{"ann", "bob", "ann"}},
		{api.ErrTwice, []string{"ann", "ann", "?"}},
	} {
		g, e := intake.Groups(copies(), c.ranks, false)
		fails(t, e, c.e, g)
	}
}

// P1.4
func TestHolders(t *testing.T) {
	for top, want := range map[string]string{"d": "bob cid", "m": "bob cid", "p": "bob cid", "e": "ann bob", "x": "ann bob", "k": "ann"} {
		l, e := intake.Holders(copies(), top)
		is(t, []any{l, e}, []any{words(want), api.OK})
	}
	for id, want := range map[string]api.Errno{"c": api.ErrRule, "a": api.ErrNone, "": api.ErrNone} {
		l, e := intake.Holders(copies(), id)
		fails(t, e, want, l)
	}
}

// P1.4: what follows.
func TestGroupsAreApart(t *testing.T) {
	l := copies()
	loose, _ := intake.Groups(l, nil, false)
	strict, _ := intake.Groups(l, nil, true)
	seen := map[string]string{}
	for _, g := range loose {
		for _, top := range g.Tops {
			is(t, seen[top], "")
			seen[top] = g.Sum
		}
	}
	for _, g := range strict {
		for _, top := range g.Tops {
			is(t, seen[top], g.Sum)
		}
	}
	_ = append(loose[0].Tops, "more")
	loose[0].Tops[0] = "changed"
	is(t, loose[1].Tops, words("e x"))
}
