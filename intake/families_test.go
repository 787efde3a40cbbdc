package intake_test

import (
	"slices"
	"testing"

	"paperchase/api"
	"paperchase/intake"
)

// P1.3
func TestFamilies(t *testing.T) {
	is(t, mustFamilies(t, nil), []api.Family{})
	is(t, mustFamilies(t, list()), []api.Family{
		{Top: "a", Items: words("a b c d e")},
		{Top: "f", Items: words("f")},
	})
	is(t, mustFamilies(t, mixed()), []api.Family{
		{Top: "b", Items: words("b d")},
		{Top: "z", Items: words("z a c e")},
	})
	is(t, len(mustFamilies(t, many(api.MaxItems))), api.MaxItems)
}

// Z2: changing a part of a result changes no other part.
func TestFamiliesAreApart(t *testing.T) {
	l := list()
	f := mustFamilies(t, l)
	_ = append(f[0].Items, "more")
	f[0].Items[0] = "changed"
	is(t, f[1].Items, words("f"))
	is(t, f[0].Top, "a")
	is(t, l, list())
}

// P1.3
func TestFamilyOf(t *testing.T) {
	for _, id := range words("z a c e") {
		f, e := intake.FamilyOf(mixed(), id)
		is(t, []any{f, e}, []any{api.Family{Top: "z", Items: words("z a c e")}, api.OK})
	}
	for _, id := range []string{"", "y", "A", "zz"} {
		f, e := intake.FamilyOf(mixed(), id)
		fails(t, e, api.ErrNone, f)
	}
}

// P1.3
func TestChildren(t *testing.T) {
	for id, want := range map[string]string{"a": "b e", "b": "c d", "c": "", "f": ""} {
		l, e := intake.Children(list(), id)
		is(t, e, api.OK)
		is(t, l, words(want))
	}
	l, e := intake.Children(mixed(), "z")
	is(t, []any{l, e}, []any{words("a c"), api.OK})
	for _, id := range []string{"", "g"} {
		l, e := intake.Children(list(), id)
		fails(t, e, api.ErrNone, l)
	}
}

// P1.3
func TestDepth(t *testing.T) {
	for id, want := range map[string]int{"a": 0, "b": 1, "c": 2, "d": 2, "e": 1, "f": 0} {
		n, e := intake.Depth(list(), id)
		is(t, []any{n, e}, []any{want, api.OK})
	}
	n, e := intake.Depth(chain(api.MaxDepth), name("n", api.MaxDepth-1))
	is(t, []any{n, e}, []any{api.MaxDepth - 1, api.OK})
	for _, id := range []string{"", "g"} {
		n, e := intake.Depth(list(), id)
		fails(t, e, api.ErrNone, n)
	}
}

func sumOf(t *testing.T, x api.Item) string {
	t.Helper()
	s, e := intake.Sum(x)
	is(t, e, api.OK)
	return s
}

// P1.3
func TestFamilySum(t *testing.T) {
	l := list()
	leaf := func(i int) string { return intake.Digest(sumOf(t, l[i])) }
	inner := []string{leaf(2), leaf(3)}
	slices.Sort(inner)
	outer := []string{intake.Digest(sumOf(t, l[1]) + " " + inner[0] + " " + inner[1]), leaf(4)}
	slices.Sort(outer)
	s, e := intake.FamilySum(l, "a")
	is(t, []any{s, e}, []any{intake.Digest(sumOf(t, l[0]) + " " + outer[0] + " " + outer[1]), api.OK})
	s, e = intake.FamilySum(l, "f")
	is(t, []any{s, e}, []any{leaf(5), api.OK})
	for id, want := range map[string]api.Errno{"b": api.ErrRule, "c": api.ErrRule, "g": api.ErrNone, "": api.ErrNone} {
		s, e := intake.FamilySum(l, id)
		fails(t, e, want, s)
	}
}

// P1.3: children in the order of their sums, and as often as they occur.
func TestFamilySumOrder(t *testing.T) {
	family := func(texts ...string) string {
		l := []api.Item{item("a", "ann", api.ItemMail, "", "")}
		for i, text := range texts {
			l = append(l, item(name("k", i), "ann", api.ItemFile, "a", text))
		}
		s, e := intake.FamilySum(l, "a")
		is(t, e, api.OK)
		return s
	}
	is(t, family("1\n", "2\n", "3\n"), family("3\n", "1\n", "2\n"))
	kid := intake.Digest(intake.Digest("file\n1\n"))
	is(t, family("1\n", "1\n"), intake.Digest(intake.Digest("mail\n")+" "+kid+" "+kid))
	is(t, family("1\n", "1\n") == family("1\n"), false)
}

// P1.3
func TestWhole(t *testing.T) {
	for ids, want := range map[string]string{
		"": "", "e": "z a c e", "a d": "b d z a c e", "d a e d": "b d z a c e", "b": "b d",
	} {
		l, e := intake.Whole(mixed(), words(ids))
		is(t, e, api.OK)
		is(t, l, words(want))
	}
	for _, ids := range [][]string{{"x"}, {"a", "x"}, {""}} {
		l, e := intake.Whole(mixed(), ids)
		fails(t, e, api.ErrNone, l)
	}
	l, e := intake.Whole(list(), slices.Repeat(words("f"), 200_000))
	is(t, []any{l, e}, []any{words("f"), api.OK})
}
