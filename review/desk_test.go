package review_test

import (
	"maps"
	"math"
	"math/rand/v2"
	"slices"
	"testing"

	"paperchase/api"
	"paperchase/intake"
	"paperchase/review"
)

// pile has the families of b (b, a, c with d within), e, and f (f, g).
func pile() []api.Item {
	return []api.Item{item("a", "b", ""), item("b", "", ""), item("c", "b", ""), item("d", "c", ""), item("e", "", ""), item("f", "", ""), item("g", "f", "")}
}

func desk(t *testing.T, items []api.Item, order string) *review.Desk {
	t.Helper()
	x, e := review.New(items, words(order))
	is(t, e, api.OK)
	return x
}

// takes checks that a batch is handed out.
func takes(t *testing.T, x *review.Desk, reviewer string, at, most, no int, items string) {
	t.Helper()
	b, e := x.Take(reviewer, at, most)
	gives(t, b, e, api.Batch{No: no, Out: at, In: -1, Reviewer: reviewer, Items: words(items)})
}

// P6.8
func TestNew(t *testing.T) {
	for order, want := range map[string]string{
		"":      "b a c d e f g",
		"f":     "f g b a c d e",
		"f b":   "f g b a c d e",
		"e f b": "e f g b a c d",
		"b e f": "b a c d e f g",
	} {
		x := desk(t, pile(), order)
		is(t, x.Left(), words(want))
		is(t, x.Progress(), api.Progress{Items: 7, Open: 7})
		is(t, x.Batches(), []api.Batch{})
	}
	x := desk(t, nil, "")
	is(t, x.Left(), []string{})
	is(t, x.Progress(), api.Progress{})
	_, e := x.Take("ann", 0, 1)
	is(t, e, api.ErrNone)
	for order, want := range map[string]api.Errno{"a": api.ErrNone, "f h": api.ErrNone, "F": api.ErrNone, "f e f": api.ErrTwice, "f f a": api.ErrTwice, "f d f": api.ErrNone} {
		x, e := review.New(pile(), words(order))
		fails(t, e, want, x)
	}
	x, e = review.New(pile(), []string{""})
	fails(t, e, api.ErrNone, x)
	eachBadList(t, func(l []api.Item) (api.Errno, []any) {
		x, e := review.New(l, words("?"))
		return e, []any{x}
	})
}

// P6.8
func TestTake(t *testing.T) {
	x := desk(t, pile(), "e")
	takes(t, x, "ann", 5, 4, 1, "e") // with the next family there would be five
	takes(t, x, "bob", 5, 5, 2, "b a c d")
	is(t, x.Progress(), api.Progress{Items: 7, Out: 5, Open: 2})
	is(t, x.Left(), words("f g"))
	takes(t, x, "cid", 5, 1, 3, "f g") // the first family even so
	b, e := x.Take("dan", 5, 1)
	fails(t, e, api.ErrNone, b)
	is(t, x.Return(2, 6, words("a d")), api.OK)
	is(t, x.Return(3, 6, nil), api.OK)
	is(t, x.Left(), words("b c f g"))
	takes(t, x, "bob", 6, 4, 4, "b c f g")
	is(t, x.Progress(), api.Progress{Items: 7, Coded: 2, Out: 5})
	is(t, x.Batches(), []api.Batch{
		{No: 1, Out: 5, In: -1, Reviewer: "ann", Items: words("e")},
		{No: 2, Out: 5, In: 6, Reviewer: "bob", Items: words("b a c d")},
		{No: 3, Out: 5, In: 6, Reviewer: "cid", Items: words("f g")},
		{No: 4, Out: 6, In: -1, Reviewer: "bob", Items: words("b c f g")},
	})
	x = desk(t, pile(), "")
	takes(t, x, "ann", 0, 5, 1, "b a c d e") // not g as well, though e and f are not so many
	x = desk(t, pile(), "")
	takes(t, x, "ann", 0, 6, 1, "b a c d e")
	x = desk(t, pile(), "")
	takes(t, x, "ann", 0, 7, 1, "b a c d e f g")
	x = desk(t, pile(), "e f")
	takes(t, x, "ann", 0, 2, 1, "e") // nor what comes after the first one that is too many
	x = desk(t, append(pile(), item("h", "", "")), "e f")
	takes(t, x, "ann", 0, 2, 1, "e")
}

// P6.8
func TestTakeErrors(t *testing.T) {
	x := desk(t, pile(), "")
	bad := func(reviewer string, at, most int, want api.Errno) {
		t.Helper()
		left, batches, progress := x.Left(), x.Batches(), x.Progress()
		b, e := x.Take(reviewer, at, most)
		fails(t, e, want, b)
		is(t, []any{x.Left(), x.Batches(), x.Progress()}, []any{left, batches, progress})
	}
	takes(t, x, "ann", 7, 4, 1, "b a c d")
	for _, name := range []string{"", "Ann", "a b"} {
		bad(name, -1, 0, api.ErrName)
	}
	for _, at := range badMoments() {
		bad("bob", at, 0, api.ErrArg)
	}
	bad("bob", 6, 0, api.ErrOrder)
	for _, most := range []int{0, -1, api.MaxBatch + 1, math.MinInt, math.MaxInt} {
		bad("bob", 7, most, api.ErrArg)
		bad("ann", 7, most, api.ErrArg)
	}
	bad("ann", 7, 1, api.ErrState)
	takes(t, x, "bob", 7, api.MaxBatch, 2, "e f g")
	bad("ann", 7, 1, api.ErrState) // though nothing is open
	bad("cid", 7, 1, api.ErrNone)
	is(t, x.Return(2, 9, nil), api.OK)
	bad("bob", 8, 1, api.ErrOrder) // the last In counts, too
	takes(t, x, "bob", 9, 1, 3, "e")
	is(t, x.Return(1, 9, words("a b c d")), api.OK)
	takes(t, x, "ann", api.End-1, 1, 4, "f g")
}

// P6.8
func TestReturn(t *testing.T) {
	x := desk(t, pile(), "")
	bad := func(no, at int, done string, want api.Errno) {
		t.Helper()
		left, batches, progress := x.Left(), x.Batches(), x.Progress()
		is(t, x.Return(no, at, words(done)), want)
		is(t, []any{x.Left(), x.Batches(), x.Progress()}, []any{left, batches, progress})
	}
	bad(1, 0, "", api.ErrNone)
	takes(t, x, "ann", 5, 4, 1, "b a c d")
	takes(t, x, "bob", 7, 1, 2, "e")
	for _, no := range []int{0, 3, -1, math.MinInt, math.MaxInt} {
		bad(no, -1, "x", api.ErrNone)
	}
	for _, at := range badMoments() {
		bad(1, at, "x", api.ErrArg)
	}
	bad(1, 6, "x", api.ErrOrder)
	for done, want := range map[string]api.Errno{"e": api.ErrNone, "a x a": api.ErrNone, "A": api.ErrNone, "a b a": api.ErrTwice, "a a x": api.ErrTwice} {
		bad(1, 7, done, want)
	}
	is(t, x.Return(1, 7, []string{""}), api.ErrNone)
	is(t, x.Return(1, 8, words("d b")), api.OK)
	is(t, x.Left(), words("a c f g"))
	is(t, x.Progress(), api.Progress{Items: 7, Coded: 2, Out: 1, Open: 4})
	is(t, x.Batches()[0], api.Batch{No: 1, Out: 5, In: 8, Reviewer: "ann", Items: words("b a c d")})
	bad(1, -1, "x", api.ErrState)
	bad(1, 8, "d b", api.ErrState)
	bad(2, 7, "e", api.ErrOrder)
	is(t, x.Return(2, 8, words("e")), api.OK)
	takes(t, x, "bob", 8, 1, 3, "a c")
	is(t, x.Return(3, 8, words("a c")), api.OK)
	takes(t, x, "ann", 8, 2, 4, "f g")
	is(t, x.Return(4, api.End-1, words("g f")), api.OK)
	is(t, x.Progress(), api.Progress{Items: 7, Coded: 7})
	_, e := x.Take("ann", api.End-1, 1)
	is(t, e, api.ErrNone)
}

// P6.8: the first family can have more items than MaxBatch.
func TestDeskMuch(t *testing.T) {
	l := []api.Item{item("a", "", "")}
	for _, id := range names("b", api.MaxItems-1) {
		l = append(l, item(id, "a", ""))
	}
	x := desk(t, l, "a")
	b, e := x.Take("ann", 0, 1)
	is(t, []any{len(b.Items), e}, []any{api.MaxItems, api.OK})
	is(t, x.Return(1, 0, b.Items[:1]), api.OK)
	b, e = x.Take("ann", 0, api.MaxBatch)
	is(t, []any{len(b.Items), e}, []any{api.MaxItems - 1, api.OK})
	for i := range l {
		l[i].Parent = ""
	}
	x = desk(t, l, "")
	b, e = x.Take("ann", 0, api.MaxBatch)
	is(t, []any{len(b.Items), e}, []any{api.MaxBatch, api.OK})
}

// P6.8: a desk is as the document's words say.
func TestDeskRandom(t *testing.T) {
	r := rand.New(rand.NewPCG(6, 9))
	for range 1_000 {
		items := randomItems(r, 10)
		families, _ := intake.Families(items)
		var tops []string
		for _, f := range families {
			tops = append(tops, f.Top)
		}
		order := mixed(r, tops)[:r.IntN(len(tops)+1)]
		x, e := review.New(items, order)
		is(t, e, api.OK)
		slices.SortStableFunc(families, func(a, b api.Family) int {
			place := func(f api.Family) int {
				if i := slices.Index(order, f.Top); i >= 0 {
					return i
				}
				return len(order)
			}
			return place(a) - place(b)
		})
		states := map[string]string{}
		for _, one := range items {
			states[one.Id] = "open"
		}
		var batches []api.Batch
		last := 0
		for range 20 {
			at := last + r.IntN(3) - 1
			if r.IntN(2) == 0 {
				who, most := pick(r, "ann", "bob", "cid"), r.IntN(5)
				want, e := takeBy(families, states, batches, who, at, last, most)
				got, e2 := x.Take(who, at, most)
				is(t, []any{got, e2}, []any{want, e})
				if e == api.OK {
					batches, last = append(batches, want), at
				}
			} else {
				no := r.IntN(len(batches) + 2)
				var done []string
				if no > 0 && no <= len(batches) {
					done = mixed(r, append(batches[no-1].Items, "x"))[:r.IntN(len(batches[no-1].Items)+1)]
				}
				e := returnBy(states, batches, no, at, last, done)
				is(t, x.Return(no, at, done), e)
				if e == api.OK {
					last = at
				}
			}
			is(t, x.Batches(), batches)
			checkDesk(t, x, families, states)
		}
	}
}

// checkDesk checks what a desk says of the states of items.
func checkDesk(t *testing.T, x *review.Desk, families []api.Family, states map[string]string) {
	t.Helper()
	many := map[string]int{}
	for state := range maps.Values(states) {
		many[state]++
	}
	is(t, x.Progress(), api.Progress{Items: len(states), Coded: many["done"], Out: many["out"], Open: many["open"]})
	var left []string
	for _, f := range families {
		for _, id := range f.Items {
			if states[id] == "open" {
				left = append(left, id)
			}
		}
	}
	is(t, x.Left(), left)
	// No item is in two batches that are out.
	out := map[string]bool{}
	for _, b := range x.Batches() {
		for _, id := range b.Items {
			if b.In == -1 {
				is(t, out[id], false)
				out[id] = true
			}
		}
	}
}

func checkAt(at, last int) api.Errno {
	switch {
	case at < 0 || at >= api.End:
		return api.ErrArg
	case at < last:
		return api.ErrOrder
	}
	return api.OK
}

func takeBy(families []api.Family, states map[string]string, batches []api.Batch, who string, at, last, most int) (api.Batch, api.Errno) {
	if e := checkAt(at, last); e != api.OK {
		return api.Batch{}, e
	}
	if most < 1 || most > api.MaxBatch {
		return api.Batch{}, api.ErrArg
	}
	if slices.ContainsFunc(batches, func(b api.Batch) bool { return b.Reviewer == who && b.In == -1 }) {
		return api.Batch{}, api.ErrState
	}
	var ids []string
	for _, f := range families {
		open := slices.DeleteFunc(slices.Clone(f.Items), func(id string) bool { return states[id] != "open" })
		if len(open) == 0 {
			continue
		}
		if len(ids) > 0 && len(ids)+len(open) > most {
			break
		}
		ids = append(ids, open...)
	}
	if len(ids) == 0 {
		return api.Batch{}, api.ErrNone
	}
	for _, id := range ids {
		states[id] = "out"
	}
	return api.Batch{No: len(batches) + 1, Out: at, In: -1, Reviewer: who, Items: ids}, api.OK
}

func returnBy(states map[string]string, batches []api.Batch, no, at, last int, done []string) api.Errno {
	if no < 1 || no > len(batches) {
		return api.ErrNone
	}
	b := &batches[no-1]
	if b.In != -1 {
		return api.ErrState
	}
	if e := checkAt(at, last); e != api.OK {
		return e
	}
	for _, id := range done {
		if !slices.Contains(b.Items, id) {
			return api.ErrNone
		}
	}
	for _, id := range b.Items {
		states[id] = "open"
		if slices.Contains(done, id) {
			states[id] = "done"
		}
	}
	b.In = at
	return api.OK
}

// Z2
func TestDeskKeeps(t *testing.T) {
	keepsItems(t, func(l []api.Item) {
		order := append(words("c b"), "x")
		x, e := review.New(l, order[:2])
		is(t, e, api.OK)
		is(t, order, words("c b x"))
		order[0], l[0].Id = "?", "?"
		is(t, x.Left(), words("c b a"))
		l[0].Id = "a"
		b, _ := x.Take("ann", 5, 9)
		b.Items[0], b.Reviewer = "?", "?"
		all := x.Batches()
		is(t, all[0], api.Batch{No: 1, Out: 5, In: -1, Reviewer: "ann", Items: words("c b a")})
		all[0].Items[0], all[0].No = "?", 9
		all = append(all[:0], api.Batch{})
		done := append(words("c"), "?")
		is(t, x.Return(1, 6, done[:1]), api.OK)
		is(t, done, words("c ?"))
		is(t, x.Batches()[0], api.Batch{No: 1, Out: 5, In: 6, Reviewer: "ann", Items: words("c b a")})
		left := x.Left()
		left[0], left = "?", append(left[:1], "?")
		is(t, x.Left(), words("b a"))
	})
}
