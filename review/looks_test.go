package review_test

import (
	"maps"
	"math/rand/v2"
	"slices"
	"testing"

	"paperchase/api"
	"paperchase/review"
)

// looks has a second look that differs at 9 and one that agrees at 12 on a, one on b, and on d one at 9 that the reviewer of d took themselves at 20.
func looks() []api.Decision {
	return numbered(
		first(5, "ann", "a", "resp=yes iss=z"),
		second(9, "bob", "a", "resp=no iss=z hot=hot"),
		first(10, "cid", "a", "resp=no"),
		second(12, "bob", "a", "resp=no"),
		first(13, "zed", "a", "hot=hot"), // later than the second look
		second(9, "ann", "b", "resp=yes"),
		first(10, "bob", "b", "resp=yes"),
		first(1, "ann", "c", "resp=yes"), // no second look
		first(9, "zed", "d", "resp=no iss=z,a"),
		second(9, "ann", "d", "resp=no iss=z,m"), // later than a first look at the same moment
		second(20, "zed", "d", "resp=yes"),
	)
}

// P6.6
func TestClashes(t *testing.T) {
	onD := api.Clash{Item: "d", Field: "iss", First: "zed", Second: "ann"}
	for at, want := range map[int][]api.Clash{
		0:  {},
		8:  {},
		9:  {{Item: "a", Field: "resp", First: "ann", Second: "bob"}, {Item: "a", Field: "hot", First: "ann", Second: "bob"}, onD},
		11: {{Item: "a", Field: "resp", First: "ann", Second: "bob"}, {Item: "a", Field: "hot", First: "ann", Second: "bob"}, onD},
		12: {onD},
		19: {onD},
		20: {},
	} {
		got, e := review.Clashes(free(), looks(), at)
		gives(t, got, e, want)
	}
	eachBadDecisions(t, func(l api.Layout, d []api.Decision) (api.Errno, []any) {
		got, e := review.Clashes(l, d, -1)
		return e, []any{got}
	})
	for _, at := range badMoments() {
		got, e := review.Clashes(free(), looks(), at)
		fails(t, e, api.ErrArg, got)
	}
}

// P6.6
func TestScores(t *testing.T) {
	for _, c := range []struct {
		field string
		at    int
		want  []api.Score
	}{
		{"resp", 8, nil},
		{"resp", 9, []api.Score{{Reviewer: "ann", Looked: 1}, {Reviewer: "zed", Looked: 1, Same: 1}}},
		{"iss", 9, []api.Score{{Reviewer: "ann", Looked: 1, Same: 1}, {Reviewer: "zed", Looked: 1}}},
		{"hot", 9, []api.Score{{Reviewer: "ann", Looked: 1}, {Reviewer: "zed", Looked: 1, Same: 1}}}, // both have none
		{"resp", 12, []api.Score{{Reviewer: "cid", Looked: 1, Same: 1}, {Reviewer: "zed", Looked: 1, Same: 1}}},
		{"resp", 20, []api.Score{{Reviewer: "cid", Looked: 1, Same: 1}}},
	} {
		got, e := review.Scores(free(), looks(), c.field, c.at)
		gives(t, got, e, c.want)
	}
	d := numbered(first(1, "ann", "a", "resp=no"), second(2, "bob", "a", "resp=no"), first(1, "ann", "b", "resp=no"), second(2, "cid", "b", "resp=yes"), first(1, "aaa", "c", "resp=no"), second(2, "ann", "c", "resp=no"))
	got, e := review.Scores(free(), d, "resp", 9)
	gives(t, got, e, []api.Score{{Reviewer: "aaa", Looked: 1, Same: 1}, {Reviewer: "ann", Looked: 2, Same: 1}})
	eachBadDecisions(t, func(l api.Layout, d []api.Decision) (api.Errno, []any) {
		got, e := review.Scores(l, d, "", -1)
		return e, []any{got}
	})
	for _, field := range []string{"", "why", "yes", "Resp"} {
		got, e := review.Scores(free(), looks(), field, -1)
		fails(t, e, api.ErrNone, got)
	}
	for _, at := range badMoments() {
		got, e := review.Scores(free(), looks(), "resp", at)
		fails(t, e, api.ErrArg, got)
	}
}

// P6.6: clashes and scores are as the document's words say.
func TestLooksRandom(t *testing.T) {
	r := rand.New(rand.NewPCG(6, 6))
	for range 3_000 {
		l := randomLayout(r)
		d := randomDecisions(r, l, 14)
		at := r.IntN(5)
		field := pick(r, l.Asks...).Field
		var clashes []api.Clash
		scores := map[string]api.Score{}
		for _, item := range itemsOf(d) {
			two := latestOf(l, d, func(x api.Decision) bool { return x.Item == item && x.Second && x.At <= at })
			if two == nil {
				continue
			}
			one := latestOf(l, d, func(x api.Decision) bool { return x.Item == item && !x.Second && later(l, *two, x) })
			if one == nil || one.Reviewer == two.Reviewer {
				continue
			}
			s := scores[one.Reviewer]
			s.Reviewer, s.Looked = one.Reviewer, s.Looked+1
			for _, a := range l.Asks {
				if choicesOf(one.Values, a.Field) != choicesOf(two.Values, a.Field) {
					clashes = append(clashes, api.Clash{Item: item, Field: a.Field, First: one.Reviewer, Second: two.Reviewer})
				} else if a.Field == field {
					s.Same++
				}
			}
			scores[one.Reviewer] = s
		}
		var sorted []api.Score
		for _, who := range slices.Sorted(maps.Keys(scores)) {
			sorted = append(sorted, scores[who])
		}
		for _, d := range [][]api.Decision{d, numbered(mixed(r, d)...)} {
			got, e := review.Clashes(l, d, at)
			gives(t, got, e, clashes)
			each, e := review.Scores(l, d, field, at)
			gives(t, each, e, sorted)
		}
	}
}

// Z2
func TestLooksKeep(t *testing.T) {
	keepsDecisions(t, func(l api.Layout, d []api.Decision) {
		_, e := review.Clashes(l, d, 9)
		is(t, e, api.OK)
		_, e = review.Scores(l, d, "iss", 9)
		is(t, e, api.OK)
	})
}
