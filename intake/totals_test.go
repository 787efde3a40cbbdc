package intake_test

import (
	"testing"

	"paperchase/api"
	"paperchase/intake"
)

// P1.6
func TestTotals(t *testing.T) {
	l, e := intake.Totals(list())
	is(t, []any{l, e}, []any{[]api.Total{
		{Custodian: "ann", Items: 4, Families: 1, Bytes: 12},
		{Custodian: "bob", Items: 1, Families: 0, Bytes: 8},
		{Custodian: "cid", Items: 1, Families: 1, Bytes: 8},
	}, api.OK})
	l, e = intake.Totals([]api.Item{item("a", "zed", api.ItemFile, "", "é\n"), item("b", "ann", api.ItemFile, "", "")})
	is(t, []any{l, e}, []any{[]api.Total{
		{Custodian: "ann", Items: 1, Families: 1, Bytes: 0},
		{Custodian: "zed", Items: 1, Families: 1, Bytes: 3},
	}, api.OK})
	l, e = intake.Totals(nil)
	is(t, []any{len(l), e}, []any{0, api.OK})
}

// P1.6
func TestDiffer(t *testing.T) {
	one := func(id string, change func(x *api.Item)) api.Item {
		x := item(id, "ann", api.ItemFile, "", "t\n")
		change(&x)
		return x
	}
	plain := func(*api.Item) {}
	a := []api.Item{one("b", plain), one("c", plain), one("d", plain), one("e", plain), one("f", plain), one("g", plain), one("h", plain), one("m", plain), one("y", plain)}
	b := []api.Item{
		one("a", plain),
		one("c", plain),
		one("d", func(x *api.Item) { x.Text = "other\n"; x.At = 1 }),
		one("e", func(x *api.Item) { x.At = 1 }),
		one("f", func(x *api.Item) { x.Name = "other" }),
		one("g", func(x *api.Item) { x.Custodian = "bob" }),
		one("h", func(x *api.Item) { x.Kind = api.ItemNote }),
		one("m", func(x *api.Item) { x.Parent = "z" }),
		one("x", plain),
		one("z", func(x *api.Item) { x.Kind = api.ItemBox }),
	}
	l, e := intake.Differ(a, b)
	is(t, []any{l, e}, []any{[]api.Change{
		{Id: "a", What: api.ChangeNew}, {Id: "b", What: api.ChangeGone}, {Id: "d", What: api.ChangeText},
		{Id: "e", What: api.ChangeRest}, {Id: "f", What: api.ChangeRest}, {Id: "g", What: api.ChangeRest},
		{Id: "h", What: api.ChangeRest}, {Id: "m", What: api.ChangeRest},
		{Id: "x", What: api.ChangeNew}, {Id: "y", What: api.ChangeGone}, {Id: "z", What: api.ChangeNew},
	}, api.OK})
	for _, same := range [][]api.Item{nil, a, b} {
		l, e := intake.Differ(same, same)
		is(t, []any{len(l), e}, []any{0, api.OK})
	}
	l, e = intake.Differ(a[:1], nil)
	is(t, []any{l, e}, []any{[]api.Change{{Id: "b", What: api.ChangeGone}}, api.OK})
}

// P1.6: the errors of the first list come first.
func TestDifferErrors(t *testing.T) {
	for wantA, a := range badLists() {
		for wantB, b := range badLists() {
			l, e := intake.Differ(a, b)
			fails(t, e, wantA, l)
			l, e = intake.Differ(list(), b)
			fails(t, e, wantB, l)
		}
	}
}
