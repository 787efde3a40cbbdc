package intake_test

import (
	"math"
	"slices"
	"strings"
	"testing"

	"paperchase/api"
	"paperchase/intake"
)

func changed(change func(x *api.Item)) api.Item {
	x := item("x", "ann", api.ItemFile, "", "body\n")
	change(&x)
	return x
}

// P1.2
func TestCheckItemAccepts(t *testing.T) {
	for _, x := range []api.Item{
		changed(func(x *api.Item) {}),
		changed(func(x *api.Item) { x.Id = strings.Repeat("i", api.MaxName) }),
		changed(func(x *api.Item) { x.Custodian = "c-1_" }),
		changed(func(x *api.Item) { x.Kind = api.ItemMail }),
		changed(func(x *api.Item) { x.Kind = api.ItemBox }),
		changed(func(x *api.Item) { x.Kind = api.ItemNote }),
		changed(func(x *api.Item) { x.Name = "" }),
		changed(func(x *api.Item) { x.Name = strings.Repeat("é", api.MaxTitle/2) }),
		changed(func(x *api.Item) { x.At = 0 }),
		changed(func(x *api.Item) { x.At = api.End - 1 }),
		changed(func(x *api.Item) { x.Parent = "y" }),
		changed(func(x *api.Item) { x.Text = "" }),
		changed(func(x *api.Item) { x.Text = "\n" }),
		changed(func(x *api.Item) { x.Text = strings.Repeat("\n", api.MaxBody) }),
	} {
		is(t, intake.CheckItem(x), api.OK)
	}
}

// P1.2
func TestCheckItemRefuses(t *testing.T) {
	for _, c := range []struct {
		e      api.Errno
		change func(x *api.Item)
	}{
		{api.ErrName, func(x *api.Item) { x.Id = "" }},
		{api.ErrName, func(x *api.Item) { x.Id = "1" }},
		{api.ErrName, func(x *api.Item) { x.Id = strings.Repeat("i", api.MaxName+1) }},
		{api.ErrName, func(x *api.Item) { x.Custodian = "" }},
		{api.ErrName, func(x *api.Item) { x.Custodian = "Ann" }},
		{api.ErrKind, func(x *api.Item) { x.Kind = 0 }},
		{api.ErrKind, func(x *api.Item) { x.Kind = 5 }},
		{api.ErrKind, func(x *api.Item) { x.Kind = math.MinInt }},
		{api.ErrLarge, func(x *api.Item) { x.Name = strings.Repeat("n", api.MaxTitle+1) }},
		{api.ErrForm, func(x *api.Item) { x.Name = "two  blanks" }},
		{api.ErrForm, func(x *api.Item) { x.Name = "line\n" }},
		{api.ErrArg, func(x *api.Item) { x.At = -1 }},
		{api.ErrArg, func(x *api.Item) { x.At = api.End }},
		{api.ErrArg, func(x *api.Item) { x.At = math.MaxInt }},
		{api.ErrName, func(x *api.Item) { x.Parent = "-" }},
		{api.ErrName, func(x *api.Item) { x.Parent = "P" }},
		{api.ErrLoop, func(x *api.Item) { x.Parent = x.Id }},
		{api.ErrLarge, func(x *api.Item) { x.Text = strings.Repeat("\n", api.MaxBody+1) }},
		{api.ErrForm, func(x *api.Item) { x.Text = "no end" }},
		{api.ErrForm, func(x *api.Item) { x.Text = "\t\n" }},
		{api.ErrForm, func(x *api.Item) { x.Text = "\xff\n" }},
	} {
		is(t, intake.CheckItem(changed(c.change)), c.e)
	}
}

// P1.2: of several errors the first one of the list.
func TestCheckItemOrder(t *testing.T) {
	x := api.Item{
		Id: "x", Custodian: "Ann", Kind: 9, Name: strings.Repeat(" ", api.MaxTitle+1), At: -1,
		Parent: "P", Text: strings.Repeat("\t", api.MaxBody+1),
	}
	for _, step := range []struct {
		e    api.Errno
		mend func()
	}{
		{api.ErrName, func() { x.Custodian = "ann" }},
		{api.ErrKind, func() { x.Kind = api.ItemNote }},
		{api.ErrLarge, func() { x.Name = x.Name[1:] }},
		{api.ErrForm, func() { x.Name = "x" }},
		{api.ErrArg, func() { x.At = 0 }},
		{api.ErrName, func() { x.Parent = "x" }},
		{api.ErrLoop, func() { x.Parent = "" }},
		{api.ErrLarge, func() { x.Text = x.Text[1:] }},
		{api.ErrForm, func() { x.Text = "" }},
		{api.OK, func() {}},
	} {
		is(t, intake.CheckItem(x), step.e)
		_, e := intake.Sum(x)
		is(t, e, step.e)
		is(t, intake.Check([]api.Item{x}), step.e)
		step.mend()
	}
}

// P1.2
func TestCheck(t *testing.T) {
	for _, l := range [][]api.Item{nil, {}, list(), mixed(), chain(api.MaxDepth), many(api.MaxItems)} {
		is(t, intake.Check(l), api.OK)
	}
	for want, l := range badLists() {
		is(t, intake.Check(l), want)
	}
	is(t, intake.Check(chain(api.MaxDepth+1)), api.ErrLarge)
	is(t, intake.Check(chain(api.MaxItems)), api.ErrLarge)
	is(t, intake.Check([]api.Item{list()[0], list()[0]}), api.ErrOrder)
}

// P1.2: a check over a list asks each element for all its errors, before the next check.
func TestCheckOrder(t *testing.T) {
	box := func(id, parent string) api.Item { return item(id, "ann", api.ItemBox, parent, "") }
	file := func(id, parent string) api.Item { return item(id, "ann", api.ItemFile, parent, "") }
	bad := box("c", "")
	bad.Kind = 0
	tooMany := many(api.MaxItems + 1)
	tooMany[0].Id = ""
	deep := chain(api.MaxDepth + 1)
	for _, c := range []struct {
		e api.Errno
		l []api.Item
	}{
		{api.ErrLarge, tooMany},
		{api.ErrOrder, []api.Item{box("b", ""), box("a", ""), bad}},
		{api.ErrKind, []api.Item{box("d", ""), bad}},
		{api.ErrKind, []api.Item{box("a", "none"), bad}},
		{api.ErrOrder, []api.Item{box("b", "none"), box("a", "")}},
		{api.ErrNone, []api.Item{box("a", "b"), box("b", "a"), box("c", "none")}},
		{api.ErrLoop, []api.Item{file("a", ""), box("b", "a"), box("c", "d"), box("d", "c")}},
		{api.ErrLoop, []api.Item{box("a", "b"), box("b", "c"), box("c", "b")}},
		{api.ErrLoop, []api.Item{box("a", "b"), box("b", "c"), box("c", "d"), box("d", "a")}},
		{api.ErrLarge, append(deep, file("x", ""), file("y", "x"))},
		{api.ErrRule, append([]api.Item{file("a", ""), file("b", "a")}, deep...)},
	} {
		is(t, intake.Check(c.l), c.e)
	}
}

// P1.2: the rule of an item comes before how deep it is.
func TestCheckRuleBeforeDepth(t *testing.T) {
	l := chain(api.MaxDepth + 1)
	l[api.MaxDepth-1].Kind = api.ItemFile
	is(t, intake.Check(l), api.ErrRule)
	for kind, want := range map[int]api.Errno{api.ItemMail: api.OK, api.ItemBox: api.OK, api.ItemFile: api.ErrRule, api.ItemNote: api.ErrRule} {
		is(t, intake.Check([]api.Item{item("a", "ann", kind, "", ""), item("b", "ann", api.ItemNote, "a", "")}), want)
	}
}

// P1.2: all functions with lists return the error of Check first.
func TestListsAreChecked(t *testing.T) {
	bad := api.Filter{Kinds: []int{0}}
	for _, call := range []func(l []api.Item) (api.Errno, []any){
		func(l []api.Item) (api.Errno, []any) { v, e := intake.Families(l); return e, []any{v} },
		func(l []api.Item) (api.Errno, []any) { v, e := intake.FamilyOf(l, "?"); return e, []any{v} },
		func(l []api.Item) (api.Errno, []any) { v, e := intake.Children(l, "?"); return e, []any{v} },
		func(l []api.Item) (api.Errno, []any) { v, e := intake.Depth(l, "?"); return e, []any{v} },
		func(l []api.Item) (api.Errno, []any) { v, e := intake.FamilySum(l, "?"); return e, []any{v} },
		func(l []api.Item) (api.Errno, []any) { v, e := intake.Whole(l, words("? a")); return e, []any{v} },
		func(l []api.Item) (api.Errno, []any) {
			v, e := intake.Groups(l, words("? ?"), true)
			return e, []any{v}
		},
		func(l []api.Item) (api.Errno, []any) { v, e := intake.Holders(l, "?"); return e, []any{v} },
		func(l []api.Item) (api.Errno, []any) { v, w, e := intake.Keep(l, bad); return e, []any{v, w} },
		func(l []api.Item) (api.Errno, []any) { v, e := intake.Totals(l); return e, []any{v} },
		func(l []api.Item) (api.Errno, []any) { v, e := intake.Differ(l, nil); return e, []any{v} },
		func(l []api.Item) (api.Errno, []any) { v, e := intake.Text(l); return e, []any{v} },
	} {
		eachBad(t, call)
	}
}

// Z2
func TestListsAreNotChanged(t *testing.T) {
	filter := api.Filter{Window: api.Window{From: 0, To: api.End}}
	for _, l := range [][]api.Item{list(), mixed()} {
		keepsArguments(t, l, func(l []api.Item) {
			intake.Check(l)
			intake.Families(l)
			intake.FamilyOf(l, "a")
			intake.Children(l, "a")
			intake.FamilySum(l, "a")
			intake.Whole(l, words("b a"))
			intake.Groups(l, words("bob ann"), false)
			intake.Holders(l, "b")
			intake.Keep(l, filter)
			intake.Totals(l)
			intake.Differ(l, l)
			intake.Text(l)
		})
	}
	ids, ranks := words("e d a"), words("cid bob ann")
	intake.Whole(list(), ids)
	intake.Groups(list(), ranks, false)
	is(t, slices.Concat(ids, ranks), words("e d a cid bob ann"))
}

// P1.2
func TestSum(t *testing.T) {
	for kind, word := range map[int]string{api.ItemMail: "mail", api.ItemFile: "file", api.ItemBox: "box", api.ItemNote: "note"} {
		for _, text := range []string{"", "one\ntwo\n"} {
			s, e := intake.Sum(item("x", "ann", kind, "p", text))
			is(t, []any{s, e}, []any{intake.Digest(word + "\n" + text), api.OK})
		}
	}
	a, _ := intake.Sum(api.Item{Id: "a", Custodian: "ann", Kind: 2, Name: "A", At: 1, Parent: "x", Text: "t\n"})
	b, _ := intake.Sum(api.Item{Id: "b", Custodian: "bob", Kind: 2, Name: "B", At: 2, Text: "t\n"})
	is(t, a, b)
	s, e := intake.Sum(api.Item{})
	fails(t, e, api.ErrName, s)
}
