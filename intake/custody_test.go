package intake_test

import (
	"math"
	"testing"

	"paperchase/api"
	"paperchase/intake"
)

func move(no, at int, thing, from, to string) api.Move {
	return api.Move{No: no, At: at, Thing: thing, From: from, To: to}
}

func moves() []api.Move {
	return []api.Move{
		move(1, 0, "disk", "", "ann"),
		move(2, 5, "box", "", "ann"),
		move(3, 5, "disk", "ann", "bob"),
		move(4, 9, "disk", "bob", "ann"),
		move(5, 9, "disk", "ann", "cid"),
		move(6, api.End-1, "box", "ann", "cid"),
	}
}

func manyMoves(many int) []api.Move {
	var l []api.Move
	for i := range many {
		l = append(l, move(i+1, i, name("t", i), "", "ann"))
	}
	return l
}

// P1.7
func TestCheckMoves(t *testing.T) {
	for _, l := range [][]api.Move{nil, moves(), manyMoves(api.MaxMoves)} {
		is(t, intake.CheckMoves(l), api.OK)
	}
	is(t, intake.CheckMoves(manyMoves(api.MaxMoves+1)), api.ErrLarge)
	for _, c := range []struct {
		e      api.Errno
		at     int
		change func(m *api.Move)
	}{
		{api.ErrArg, 0, func(m *api.Move) { m.No = 0 }},
		{api.ErrArg, 1, func(m *api.Move) { m.No = 1 }},
		{api.ErrArg, 1, func(m *api.Move) { m.No = math.MinInt }},
		{api.ErrArg, 0, func(m *api.Move) { m.At = -1 }},
		{api.ErrArg, 5, func(m *api.Move) { m.At = api.End }},
		{api.ErrOrder, 2, func(m *api.Move) { m.At = 4 }},
		{api.ErrName, 0, func(m *api.Move) { m.Thing = "" }},
		{api.ErrName, 0, func(m *api.Move) { m.Thing = "Disk" }},
		{api.ErrName, 2, func(m *api.Move) { m.From = "-" }},
		{api.ErrName, 2, func(m *api.Move) { m.To = "" }},
		{api.ErrName, 2, func(m *api.Move) { m.To = "Bob" }},
		{api.ErrLoop, 2, func(m *api.Move) { m.To = "ann" }},
		{api.ErrState, 0, func(m *api.Move) { m.From = "bob" }},
		{api.ErrState, 1, func(m *api.Move) { m.From = "bob" }},
		{api.ErrState, 2, func(m *api.Move) { m.From = "" }},
		{api.ErrState, 3, func(m *api.Move) { m.From = "cid" }},
	} {
		l := moves()
		c.change(&l[c.at])
		is(t, intake.CheckMoves(l), c.e)
		who, e := intake.Holder(l, "?", -1)
		fails(t, e, c.e, who)
		things, e := intake.Holding(l, "?", -1)
		fails(t, e, c.e, things)
	}
}

// P1.7: of several errors the first one of the list, move by move.
func TestCheckMovesOrder(t *testing.T) {
	m := move(9, -1, "?", "x", "x")
	l := func() []api.Move { return []api.Move{move(1, 7, "disk", "", "ann"), m, {}} }
	for _, step := range []struct {
		e    api.Errno
		mend func()
	}{
		{api.ErrArg, func() { m.No = 2 }},
		{api.ErrArg, func() { m.At = 6 }},
		{api.ErrOrder, func() { m.At = 7 }},
		{api.ErrName, func() { m.Thing = "disk" }},
		{api.ErrLoop, func() { m.To = "bob" }},
		{api.ErrState, func() { m.From = "ann" }},
		{api.ErrArg, func() {}},
	} {
		is(t, intake.CheckMoves(l()), step.e)
		step.mend()
	}
}

// P1.7
func TestHolder(t *testing.T) {
	for _, c := range []struct {
		thing string
		at    int
		want  string
	}{
		{"disk", 0, "ann"}, {"disk", 4, "ann"}, {"disk", 5, "bob"}, {"disk", 8, "bob"}, {"disk", 9, "cid"},
		{"disk", api.End - 1, "cid"}, {"box", 5, "ann"}, {"box", api.End - 2, "ann"}, {"box", api.End - 1, "cid"},
	} {
		who, e := intake.Holder(moves(), c.thing, c.at)
		is(t, []any{who, e}, []any{c.want, api.OK})
	}
	for _, c := range []struct {
		e     api.Errno
		thing string
		at    int
	}{
		{api.ErrName, "", 5}, {api.ErrName, "Disk", -1}, {api.ErrArg, "disk", -1}, {api.ErrArg, "none", api.End},
		{api.ErrNone, "box", 4}, {api.ErrNone, "none", 5},
	} {
		who, e := intake.Holder(moves(), c.thing, c.at)
		fails(t, e, c.e, who)
	}
}

// P1.7
func TestHolding(t *testing.T) {
	for _, c := range []struct {
		who  string
		at   int
		want string
	}{
		{"ann", 0, "disk"}, {"ann", 5, "box"}, {"bob", 5, "disk"}, {"ann", 9, "box"}, {"bob", 9, ""},
		{"cid", 9, "disk"}, {"cid", api.End - 1, "box disk"}, {"ann", api.End - 1, ""}, {"zed", 9, ""},
	} {
		l, e := intake.Holding(moves(), c.who, c.at)
		is(t, e, api.OK)
		is(t, l, words(c.want))
	}
	for _, c := range []struct {
		e   api.Errno
		who string
		at  int
	}{
		{api.ErrName, "", 5}, {api.ErrName, "Ann", -1}, {api.ErrArg, "ann", -1}, {api.ErrArg, "ann", api.End},
	} {
		l, e := intake.Holding(moves(), c.who, c.at)
		fails(t, e, c.e, l)
	}
	l, e := intake.Holding(manyMoves(api.MaxMoves), "ann", api.MaxMoves)
	is(t, []any{len(l), e}, []any{api.MaxMoves, api.OK})
}
