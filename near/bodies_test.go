package near_test

import (
	"cmp"
	"math"
	"math/rand/v2"
	"slices"
	"strings"
	"testing"

	"paperchase/api"
	"paperchase/near"
)

// P3.3
func TestCheckBodies(t *testing.T) {
	for _, l := range [][]api.Body{
		nil,
		bodies("", "\x00\xff\r no text"),
		alike(api.MaxBodies, ""),
		alike(25, xs(api.MaxBody)),
		{{Id: xs(api.MaxName)}, {Id: "a-b_9"}},
	} {
		is(t, near.CheckBodies(l), api.OK)
	}
	for _, c := range badBodies() {
		is(t, near.CheckBodies(c.l), c.e)
	}
}

func pair(a, b string, num, den int) api.Pair {
	return api.Pair{A: a, B: b, Like: fraction(num, den)}
}

// P3.3
func TestPairs(t *testing.T) {
	for _, c := range []struct {
		l        []api.Body
		k, least int
		want     []api.Pair
	}{
		{nil, 1, 1, nil},
		{bodies("a"), 1, 1, nil},
		{bodies("a", "b"), 1, 1, nil},
		{bodies("a", "A!"), 10, 100, []api.Pair{pair("a", "b", 1, 1)}},
		{bodies("", "?", "a"), 1, 1, []api.Pair{pair("a", "b", 1, 1)}},
		// at least: 2/4 is 50 percent, and 1/3 a bit more than 33
		{bodies("a b c", "b c d"), 1, 50, []api.Pair{pair("a", "b", 1, 2)}},
		{bodies("a b c", "b c d"), 1, 51, nil},
		{bodies("a b", "b c"), 1, 33, []api.Pair{pair("a", "b", 1, 3)}},
		{bodies("a b", "b c"), 1, 34, nil},
		{bodies("a b c", "a b d"), 2, 30, []api.Pair{pair("a", "b", 1, 3)}},
		// the greatest first, then by A, then by B
		{bodies("a b", "a b c", "b", "c b a", "b a"), 1, 40, []api.Pair{
			pair("a", "e", 1, 1), pair("b", "d", 1, 1),
			pair("a", "b", 2, 3), pair("a", "d", 2, 3), pair("b", "e", 2, 3), pair("d", "e", 2, 3),
			pair("a", "c", 1, 2), pair("c", "e", 1, 2),
		}},
		// by strings, not as they stand
		{[]api.Body{{Id: "z", Text: "x"}, {Id: "b10", Text: "x"}, {Id: "b9", Text: "x"}}, 1, 1, []api.Pair{
			pair("b10", "b9", 1, 1), pair("b10", "z", 1, 1), pair("b9", "z", 1, 1),
		}},
	} {
		p, e := near.Pairs(c.l, c.k, c.least)
		is(t, e, api.OK)
		is(t, p, c.want)
	}
}

// eachWrongNumber calls a function with documents, and with numbers that are out of their ranges.
func eachWrongNumber(t *testing.T, call func(l []api.Body, k, least int) (any, api.Errno)) {
	t.Helper()
	l := bodies("a", "a")
	for _, k := range badRuns {
		got, e := call(l, k, 50)
		fails(t, e, api.ErrArg, got)
	}
	for _, least := range []int{0, -1, 101, math.MinInt, math.MaxInt} {
		got, e := call(l, 1, least)
		fails(t, e, api.ErrArg, got)
	}
	eachBadList(t, func(l []api.Body) (any, api.Errno) { return call(l, 0, 0) })
	eachBadList(t, func(l []api.Body) (any, api.Errno) { return call(l, 1, 1) })
	keepsBodies(t, func(l []api.Body) { call(l, 1, 50) })
}

// P3.3
func TestPairsErrors(t *testing.T) {
	eachWrongNumber(t, func(l []api.Body, k, least int) (any, api.Errno) { return near.Pairs(l, k, least) })
}

// P3.3: against Resemblance of all pairs, in whatever order.
func TestPairsOfAnything(t *testing.T) {
	r := rand.New(rand.NewPCG(3, 3))
	for range 1_000 {
		l, k, least := randomBodies(r), 1+r.IntN(3), 1+r.IntN(100)
		var want []api.Pair
		for _, a := range l {
			for _, b := range l {
				like := resemblance(t, a.Text, b.Text, k)
				if a.Id < b.Id && isAtLeast(like, least) {
					want = append(want, api.Pair{A: a.Id, B: b.Id, Like: like})
				}
			}
		}
		slices.SortFunc(want, func(x, y api.Pair) int {
			return cmp.Or(greaterFirst(x.Like, y.Like), strings.Compare(x.A, y.A), strings.Compare(x.B, y.B))
		})
		got, e := near.Pairs(l, k, least)
		is(t, e, api.OK)
		is(t, got, want)
	}
}

func cluster(pivot, ids string) api.Cluster { return api.Cluster{Pivot: pivot, Ids: words(ids)} }

// P3.4
func TestGroups(t *testing.T) {
	for _, c := range []struct {
		l        []api.Body
		k, least int
		want     []api.Cluster
	}{
		{nil, 1, 1, nil},
		{bodies("x"), 1, 100, []api.Cluster{cluster("a", "a")}},
		{bodies("", "x", ","), 1, 1, []api.Cluster{cluster("b", "b"), cluster("a", "a c")}},
		// the most shingles first, then by Id
		{bodies("p", "q r", "s t", "u v w"), 1, 1, []api.Cluster{cluster("d", "d"), cluster("b", "b"), cluster("c", "c"), cluster("a", "a")}},
		// by the number of shingles, not of words
		{bodies("p p p p", "q r"), 1, 1, []api.Cluster{cluster("b", "b"), cluster("a", "a")}},
		{bodies("a b c", "a b c d", "q r"), 2, 60, []api.Cluster{cluster("b", "a b"), cluster("c", "c")}},
		// what is like another one of the group, but not like the pivot, is in another group
		{bodies("a b c d", "a b c", "b c"), 1, 60, []api.Cluster{cluster("a", "a b"), cluster("c", "c")}},
		{bodies("a b c d", "a b c", "b c"), 1, 50, []api.Cluster{cluster("a", "a b c")}},
		// one that is taken already stays in the first group
		{bodies("a b c d", "c d e f", "c d"), 1, 50, []api.Cluster{cluster("a", "a c"), cluster("b", "b")}},
		{[]api.Body{{Id: "z", Text: "x y"}, {Id: "b9", Text: "y x"}, {Id: "b10", Text: "x"}}, 1, 50, []api.Cluster{cluster("b9", "b10 b9 z")}},
	} {
		g, e := near.Groups(c.l, c.k, c.least)
		is(t, e, api.OK)
		is(t, g, c.want)
	}
	eachWrongNumber(t, func(l []api.Body, k, least int) (any, api.Errno) { return near.Groups(l, k, least) })
}

// P3.4
func TestPivot(t *testing.T) {
	l := bodies("a b c", "a b c d", "q r", "b a c d e", "", "q r")
	for _, c := range []struct {
		id, pivot string
		like      api.Fraction
	}{
		{"a", "a", fraction(1, 1)},
		{"b", "d", fraction(4, 5)},
		{"c", "c", fraction(1, 1)},
		{"d", "d", fraction(1, 1)},
		{"e", "e", fraction(1, 1)},
		{"f", "c", fraction(1, 1)},
	} {
		pivot, like, e := near.Pivot(l, 1, 75, c.id)
		is(t, []any{pivot, like, e}, []any{c.pivot, c.like, api.OK})
	}
	pivot, like, e := near.Pivot(l, 1, 60, "a")
	is(t, []any{pivot, like, e}, []any{"d", fraction(3, 5), api.OK})
	for _, id := range []string{"", "g", "A", "?"} {
		pivot, like, e := near.Pivot(l, 1, 75, id)
		fails(t, e, api.ErrNone, pivot, like)
	}
	pivot, like, e = near.Pivot(nil, 1, 75, "a")
	fails(t, e, api.ErrNone, pivot, like)
	eachWrongNumber(t, func(l []api.Body, k, least int) (any, api.Errno) {
		pivot, like, e := near.Pivot(l, k, least, "none")
		fails(t, e, e, pivot, like)
		return pivot, e
	})
}

// P3.4: against Resemblance, in whatever order; every document is in one group, two with the same shingles in one.
func TestGroupsOfAnything(t *testing.T) {
	r := rand.New(rand.NewPCG(3, 4))
	for range 1_000 {
		l, k, least := randomBodies(r), 1+r.IntN(3), 1+r.IntN(100)
		order := slices.Clone(l)
		slices.SortFunc(order, func(x, y api.Body) int {
			return cmp.Or(len(shingles(t, y.Text, k))-len(shingles(t, x.Text, k)), strings.Compare(x.Id, y.Id))
		})
		group := map[string]int{}
		var want []api.Cluster
		for _, pivot := range order {
			if _, ok := group[pivot.Id]; ok {
				continue
			}
			var ids []string
			for _, b := range order {
				_, ok := group[b.Id]
				like := resemblance(t, pivot.Text, b.Text, k)
				if ok || !isAtLeast(like, least) {
					continue
				}
				group[b.Id] = len(want)
				ids = append(ids, b.Id)
				id, f, e := near.Pivot(l, k, least, b.Id)
				is(t, []any{id, f, e}, []any{pivot.Id, like, api.OK})
			}
			slices.Sort(ids)
			want = append(want, api.Cluster{Pivot: pivot.Id, Ids: ids})
		}
		got, e := near.Groups(l, k, least)
		is(t, e, api.OK)
		is(t, got, want)
		for _, a := range l {
			for _, b := range l {
				if slices.Equal(shingles(t, a.Text, k), shingles(t, b.Text, k)) {
					is(t, group[a.Id], group[b.Id])
				}
			}
		}
	}
}

// P3.3, P3.4, Z1: as many documents as can be, as long as they can be, all alike, or with no shingle in common.
func TestBodiesLargest(t *testing.T) {
	r := rand.New(rand.NewPCG(3, 5))
	same := ""
	for range api.MaxBodyBytes / api.MaxBodies / 2 {
		same += string(rune('a'+r.IntN(26))) + " "
	}
	l := alike(api.MaxBodies, same)
	pairs, e := near.Pairs(l, 10, 100)
	is(t, []any{len(pairs), e}, []any{api.MaxBodies * (api.MaxBodies - 1) / 2, api.OK})
	groups, e := near.Groups(l, 10, 100)
	is(t, []any{len(groups), len(groups[0].Ids), e}, []any{1, api.MaxBodies, api.OK})
	for i := range l {
		own := ""
		for n := range 238 {
			own += name("", i*1_000+n) + " "
		}
		l[i].Text = own
	}
	pairs, e = near.Pairs(l, 1, 1)
	is(t, []any{len(pairs), e}, []any{0, api.OK})
	groups, e = near.Groups(l, 1, 1)
	is(t, []any{len(groups), groups[7], e}, []any{api.MaxBodies, api.Cluster{Pivot: name("d", 7), Ids: []string{name("d", 7)}}, api.OK})
}
