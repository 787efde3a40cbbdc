package intake_test

import (
	"math/rand/v2"
	"slices"
	"testing"

	"paperchase/api"
	"paperchase/intake"
)

func ids(l []api.Item) []string {
	var s []string
	for _, x := range l {
		s = append(s, x.Id)
	}
	return s
}

func filled(t *testing.T, l ...api.Item) *intake.Store {
	t.Helper()
	x := intake.New()
	for _, i := range l {
		isNew, e := x.Add(i)
		is(t, []any{isNew, e}, []any{true, api.OK})
	}
	return x
}

func expectStore(t *testing.T, x *intake.Store, items, waiting string) {
	t.Helper()
	is(t, ids(x.Items()), words(items))
	is(t, ids(x.Waiting()), words(waiting))
}

func box(id, parent string) api.Item  { return item(id, "ann", api.ItemBox, parent, "") }
func file(id, parent string) api.Item { return item(id, "ann", api.ItemFile, parent, "") }

// refuses checks that an item is refused, and that nothing has changed.
func refuses(t *testing.T, x *intake.Store, i api.Item, want api.Errno) {
	t.Helper()
	items, waiting := x.Items(), x.Waiting()
	isNew, e := x.Add(i)
	fails(t, e, want, isNew)
	is(t, x.Items(), items)
	is(t, x.Waiting(), waiting)
}

// P1.9: the example of the chapter.
func TestStoreExample(t *testing.T) {
	x := intake.New()
	expectStore(t, x, "", "")
	x.Add(file("c", "b"))
	expectStore(t, x, "", "c")
	x.Add(item("a", "ann", api.ItemMail, "", ""))
	expectStore(t, x, "a", "c")
	x.Add(box("b", "a"))
	expectStore(t, x, "a b c", "")
	f, _ := intake.FamilyOf(x.Items(), "a")
	is(t, f, api.Family{Top: "a", Items: words("a b c")})
}

// P1.9
func TestStoreKeepsItems(t *testing.T) {
	x := filled(t, mixed()...)
	is(t, x.Items(), mixed())
	for _, i := range mixed() {
		isNew, e := x.Add(i)
		is(t, []any{isNew, e}, []any{false, api.OK})
	}
	is(t, x.Items(), mixed())
	x.Items()[0].Text = "changed\n"
	is(t, x.Items(), mixed())
	y := filled(t, box("b", "a"))
	y.Waiting()[0].Id = "changed"
	expectStore(t, y, "", "b")
}

// P1.9: waiting items below waiting ones.
func TestStoreWaits(t *testing.T) {
	x := filled(t, file("d", "c"), box("b", "a"), file("z", ""), box("c", "b"))
	expectStore(t, x, "z", "b c d")
	x.Add(box("a", ""))
	expectStore(t, x, "a b c d z", "")
}

// P1.9
func TestAddConflict(t *testing.T) {
	x := filled(t, file("a", ""), file("w", "none"))
	for _, change := range []func(x *api.Item){
		func(x *api.Item) { x.Custodian = "bob" }, func(x *api.Item) { x.Kind = api.ItemNote }, func(x *api.Item) { x.Name = "n" },
		func(x *api.Item) { x.At = 1 }, func(x *api.Item) { x.Parent = "p" }, func(x *api.Item) { x.Text = "t\n" },
	} {
		for _, i := range []api.Item{file("a", ""), file("w", "none")} {
			change(&i)
			refuses(t, x, i, api.ErrConflict)
		}
	}
	refuses(t, x, api.Item{}, api.ErrName)
	refuses(t, x, file("x", "x"), api.ErrLoop)
	bad := file("a", "")
	bad.At = -1
	refuses(t, x, bad, api.ErrArg)
}

// P1.9: complete and waiting items count.
func TestAddFull(t *testing.T) {
	l := many(api.MaxItems)
	l[0].Parent = "none"
	x := filled(t, l...)
	refuses(t, x, file("a", ""), api.ErrFull)
	refuses(t, x, file("none", ""), api.ErrFull)
	isNew, e := x.Add(l[5])
	is(t, []any{isNew, e}, []any{false, api.OK})
	other := l[5]
	other.At = 1
	refuses(t, x, other, api.ErrConflict)
	is(t, []int{len(x.Items()), len(x.Waiting())}, []int{api.MaxItems - 1, 1})
}

// P1.9
func TestAddLoop(t *testing.T) {
	x := filled(t, box("a", "b"), box("b", "c"))
	refuses(t, x, box("c", "a"), api.ErrLoop)
	refuses(t, x, box("c", "b"), api.ErrLoop)
	refuses(t, x, file("c", "a"), api.ErrLoop)
	x.Add(box("c", ""))
	expectStore(t, x, "a b c", "")
}

// P1.9
func TestAddRule(t *testing.T) {
	x := filled(t, file("a", ""), item("n", "ann", api.ItemNote, "", ""), file("k", "p"), item("m", "ann", api.ItemMail, "", ""))
	refuses(t, x, file("b", "a"), api.ErrRule)
	refuses(t, x, file("b", "n"), api.ErrRule)
	refuses(t, x, file("p", ""), api.ErrRule)
	refuses(t, x, item("p", "ann", api.ItemNote, "none", ""), api.ErrRule)
	x.Add(item("p", "ann", api.ItemMail, "m", ""))
	expectStore(t, x, "a k m n p", "")
}

// P1.9: waiting items have items above them, too.
func TestAddDeep(t *testing.T) {
	x := filled(t, chain(api.MaxDepth)...)
	refuses(t, x, file("x", name("n", 4)), api.ErrLarge)
	y := filled(t, chain(api.MaxDepth + 1)[1:]...)
	expectStore(t, y, "", "n000001 n000002 n000003 n000004 n000005")
	refuses(t, y, box(name("n", 0), ""), api.ErrLarge)
	z := filled(t, append(chain(3), box("s", "r"), box("t", "s"), box("u", "t"))...)
	refuses(t, z, box("r", name("n", 1)), api.ErrLarge)
	refuses(t, z, file("r", name("n", 2)), api.ErrRule)
	z.Add(box("r", name("n", 0)))
	expectStore(t, z, "n000000 n000001 n000002 r s t u", "")
}

// P1.9
func TestJoin(t *testing.T) {
	x := filled(t, box("b", "a"), file("z", ""), file("w", "none"))
	y := filled(t, file("c", "b"), box("a", ""), file("z", ""), file("v", "none"))
	n, e := x.Join(y)
	is(t, []any{n, e}, []any{3, api.OK})
	expectStore(t, x, "a b c z", "v w")
	expectStore(t, y, "a z", "c v")
	n, e = x.Join(y)
	is(t, []any{n, e}, []any{0, api.OK})
	n, e = x.Join(x)
	is(t, []any{n, e}, []any{0, api.OK})
	n, e = x.Join(intake.New())
	is(t, []any{n, e}, []any{0, api.OK})
	n, e = y.Join(x)
	is(t, []any{n, e}, []any{2, api.OK})
	is(t, y.Items(), x.Items())
	is(t, y.Waiting(), x.Waiting())
	x.Add(file("new", ""))
	expectStore(t, y, "a b c z", "v w")
}

// P1.9: an error of Join, whichever store joins the other one, changes neither.
func TestJoinErrors(t *testing.T) {
	other := file("a", "")
	other.Text = "other\n"
	full := many(api.MaxItems)
	loop := func(start, end int) []api.Item { return []api.Item{box(name("l", start), name("l", end))} }
	deep := chain(8)
	for _, c := range []struct {
		e    api.Errno
		a, b []api.Item
	}{
		{api.ErrConflict, []api.Item{file("a", "")}, []api.Item{other, file("b", "")}},
		{api.ErrConflict, append(slices.Clone(full[1:]), file("a", "")), []api.Item{other, file("b", "")}},
		{api.ErrConflict, []api.Item{box("a", "b"), file("x", "")}, []api.Item{box("b", "a"), box("x", "")}},
		{api.ErrFull, full, []api.Item{file("a", "")}},
		{api.ErrFull, full[1:], append(loop(1, 2), loop(2, 3)...)},
		{api.ErrLoop, []api.Item{box("a", "b")}, []api.Item{box("b", "a")}},
		{api.ErrLoop, append([]api.Item{file("k", "p")}, loop(1, 2)...), append([]api.Item{file("p", "")}, loop(2, 1)...)},
		{api.ErrRule, []api.Item{file("k", "p")}, []api.Item{file("p", "")}},
		{api.ErrRule, append([]api.Item{file("z", "zz")}, deep[:4]...), append([]api.Item{file("zz", "")}, deep[4:]...)},
		{api.ErrLarge, deep[:4], deep[4:]},
		{api.ErrLarge, deep[:4], deep[4:6]},
	} {
		for range 2 {
			x, y := filled(t, c.a...), filled(t, c.b...)
			items, waiting, yItems, yWaiting := x.Items(), x.Waiting(), y.Items(), y.Waiting()
			n, e := x.Join(y)
			fails(t, e, c.e, n)
			is(t, []any{x.Items(), x.Waiting(), y.Items(), y.Waiting()}, []any{items, waiting, yItems, yWaiting})
			c.a, c.b = c.b, c.a
		}
	}
	x := filled(t, full[1:]...)
	n, e := x.Join(filled(t, full[0], full[1], full[2]))
	is(t, []any{n, e}, []any{1, api.OK})
	is(t, x.Items(), full)
}

// someItems are items that may be within each other, in some order.
func someItems(r *rand.Rand, many int) []api.Item {
	var l []api.Item
	depths := make([]int, many)
	for i := range many {
		x := box(name("s", r.IntN(500)*100+i), "")
		if p := r.IntN(many + 1); p < i && depths[p] < api.MaxDepth-1 {
			x.Parent = l[p].Id
			depths[i] = depths[p] + 1
		}
		l = append(l, x)
	}
	r.Shuffle(many, func(i, j int) { l[i], l[j] = l[j], l[i] })
	return l[:many-r.IntN(3)]
}

// P1.9: what follows.
func TestStoreInAnyOrder(t *testing.T) {
	r := rand.New(rand.NewPCG(1, 9))
	for range 200 {
		l := someItems(r, 30)
		x, y, z := filled(t, l...), intake.New(), intake.New()
		r.Shuffle(len(l), func(i, j int) { l[i], l[j] = l[j], l[i] })
		for _, i := range append(slices.Clone(l), l[:10]...) {
			y.Add(i)
		}
		cut := r.IntN(len(l))
		left, right := filled(t, l[:cut]...), filled(t, l[cut/2:]...)
		z.Join(left)
		z.Join(right)
		right.Join(left)
		is(t, intake.Check(x.Items()), api.OK)
		for _, s := range []*intake.Store{y, z, right} {
			is(t, s.Items(), x.Items())
			is(t, s.Waiting(), x.Waiting())
		}
		is(t, len(x.Items())+len(x.Waiting()), len(l))
	}
}
