package sample_test

import (
	"math/rand/v2"
	"slices"
	"strings"
	"testing"

	"paperchase/api"
	"paperchase/sample"
)

// batches are orders with signs `;` between.
func batches(s string) [][]bool {
	var l [][]bool
	for part := range strings.SplitSeq(s, ";") {
		l = append(l, order(part))
	}
	return l
}

func rule(batches, num, den int) api.StopRule {
	return api.StopRule{Batches: batches, Most: fraction(num, den)}
}

// P9.7
func TestStops(t *testing.T) {
	for _, c := range []struct {
		batches string
		rule    api.StopRule
		want    int // 0: it does not end
	}{
		{"++;+-;--", rule(2, 1, 4), 3},
		{"++;+-;--", rule(2, 2, 8), 3},
		{"++;+-;--", rule(2, 249_999, 1_000_000), 0},
		{"++;+-;--", rule(1, 1, 4), 3},
		{"++;+-;--", rule(1, 1, 2), 2},
		{"++;+-;--", rule(1, 1, 1), 1},
		{"++;+-;--", rule(2, 1, 1), 2},
		{"++;+-;--", rule(2, 3, 4), 2},
		{"++;+-;--", rule(3, 1, 2), 3},
		{"++;+-;--", rule(3, 49, 100), 0},
		{"++;+-;--", rule(4, 1, 1), 0},
		{"++;+-;--", rule(api.MaxItems, 1, 1), 0},
		{"--;--", rule(1, 0, 1), 1},
		{"--;--", rule(2, 0, 1), 2},
		{"--;-+;--;--", rule(2, 0, 1_000_000), 4},
		{"+;+;+", rule(1, 0, 1), 0},
		{"+;+;+", rule(1, 999_999, 1_000_000), 0},
		{"++++;-;+;-", rule(2, 1, 2), 3}, // of all items together, not batch by batch
		{"+-;+----;--", rule(2, 2, 7), 2},
		{"++++;;+", rule(1, 0, 1), 2}, // none of none is not more than a share
		{"+;;;+", rule(2, 0, 1), 3},
		{"", rule(1, 0, 1), 1},
	} {
		got, e := sample.Stops(batches(c.batches), c.rule)
		if c.want == 0 {
			fails(t, got, e, api.ErrNone)
			continue
		}
		gives(t, got, e, c.want)
	}
	got, e := sample.Stops(nil, rule(1, 1, 1))
	fails(t, got, e, api.ErrNone)
	l := roomy(batches("++;+-;--"))
	keeps(t, func() any {
		got, _ := sample.Stops(l, rule(2, 1, 4))
		return got
	}, l)
}

// P9.7
func TestStopsAtBounds(t *testing.T) {
	full := slices.Repeat([]bool{true}, api.MaxItems)
	all := slices.Repeat([][]bool{full}, api.MaxItems)
	got, e := sample.Stops(all, rule(api.MaxItems, 1, 1))
	gives(t, got, e, api.MaxItems)
	got, e = sample.Stops(all, rule(api.MaxItems, 999_999, 1_000_000))
	fails(t, got, e, api.ErrNone)
	for _, r := range []api.StopRule{rule(1, 1, 1), {}} {
		got, e = sample.Stops(append(all, nil), r)
		fails(t, got, e, api.ErrLarge)
		got, e = sample.Stops(make([][]bool, api.MaxItems+1), r)
		fails(t, got, e, api.ErrLarge)
		got, e = sample.Stops([][]bool{nil, append(full, false)}, r)
		fails(t, got, e, api.ErrLarge)
		got, e = sample.Stops([][]bool{make([]bool, api.MaxItems+1), nil}, r)
		fails(t, got, e, api.ErrLarge)
	}
	for _, l := range [][][]bool{nil, batches("--;--")} {
		for _, n := range outside(1, api.MaxItems) {
			got, e := sample.Stops(l, rule(n, 1, 1))
			fails(t, got, e, api.ErrArg)
		}
		for _, share := range badShares() {
			got, e := sample.Stops(l, api.StopRule{Batches: 1, Most: share})
			fails(t, got, e, api.ErrArg)
		}
	}
}

// P9.7: the words of the document, batch by batch.
func TestStopsRandom(t *testing.T) {
	r := rand.New(rand.NewPCG(9, 7))
	for range 5_000 {
		l := make([][]bool, r.IntN(9))
		for i := range l {
			l[i] = make([]bool, r.IntN(5))
			for j := range l[i] {
				l[i][j] = r.IntN(3) == 0
			}
		}
		den := 1 + r.IntN(9)
		rule := rule(1+r.IntN(4), r.IntN(den+1), den)
		want := 0
		for k := rule.Batches; k <= len(l) && want == 0; k++ {
			relevant, items := 0, 0
			for _, yes := range slices.Concat(l[k-rule.Batches : k]...) {
				items++
				if yes {
					relevant++
				}
			}
			if relevant*rule.Most.Den <= rule.Most.Num*items {
				want = k
			}
		}
		got, e := sample.Stops(l, rule)
		if want == 0 {
			fails(t, got, e, api.ErrNone)
			continue
		}
		gives(t, got, e, want)
	}
}

func costs(once, read, second, every int) api.CostRules {
	return api.CostRules{Once: once, Read: read, Second: second, Every: every}
}

const billion = 1_000_000_000

// badCosts are rules of which one number is out of its range.
func badCosts() []api.CostRules {
	var l []api.CostRules
	for _, n := range outside(0, billion) {
		l = append(l, costs(n, 1, 1, 1), costs(1, n, 1, 1), costs(1, 1, n, 1), costs(1, 1, n, 0))
	}
	for _, n := range outside(0, api.MaxCounts) {
		l = append(l, costs(1, 1, 1, n), costs(0, 0, 0, n))
	}
	return l
}

// P9.7
func TestCost(t *testing.T) {
	for _, c := range []struct {
		rules       api.CostRules
		items, want int
	}{
		{costs(100, 10, 50, 4), 9, 290},
		{costs(100, 10, 50, 4), 0, 100},
		{costs(100, 10, 50, 4), 3, 130},
		{costs(100, 10, 50, 4), 4, 190},
		{costs(100, 10, 50, 4), 8, 280},
		{costs(100, 10, 50, 1), 3, 280},
		{costs(100, 10, 50, 0), 9, 190},
		{costs(0, 0, 0, 0), 1_000_000, 0},
		{costs(0, 0, 7, 1_000_000), 999_999, 0},
		{costs(0, 0, 7, 1_000_000), 1_000_000, 7},
		{costs(billion, billion, billion, 1), 1_000_000, 2_000_001_000_000_000},
		{costs(billion, billion, billion, 0), 1_000_000, 1_000_001_000_000_000},
	} {
		got, e := sample.Cost(c.rules, c.items)
		gives(t, got, e, c.want)
	}
	for _, r := range badCosts() {
		got, e := sample.Cost(r, 5)
		fails(t, got, e, api.ErrArg)
	}
	for _, items := range outside(0, api.MaxCounts) {
		for _, r := range []api.CostRules{{}, costs(100, 10, 50, 4)} {
			got, e := sample.Cost(r, items)
			fails(t, got, e, api.ErrArg)
		}
	}
}

// P9.7
func TestAfford(t *testing.T) {
	const most = 10_000_000_000_000_000
	for _, c := range []struct {
		rules       api.CostRules
		cents, want int
	}{
		{costs(100, 10, 50, 4), 289, 8},
		{costs(100, 10, 50, 4), 290, 9},
		{costs(100, 10, 50, 4), 100, 0},
		{costs(100, 10, 50, 4), 109, 0},
		{costs(100, 10, 50, 4), 110, 1},
		{costs(100, 10, 50, 4), 130, 3},
		{costs(100, 10, 50, 4), 189, 3}, // the fourth one costs 60
		{costs(100, 10, 50, 4), 190, 4},
		{costs(100, 10, 50, 0), 290, 19},
		{costs(100, 0, 0, 0), 100, 1_000_000},
		{costs(0, 0, 0, 9), 0, 1_000_000},
		{costs(0, 0, 1, 7), 0, 6},
		{costs(0, 1, 0, 0), 0, 0},
		{costs(0, 1, 0, 0), 999_999, 999_999},
		{costs(0, 1, 0, 0), 1_000_000, 1_000_000},
		{costs(0, 1, 0, 0), 1_000_001, 1_000_000},
		{costs(0, 1, 0, 0), most, 1_000_000},
		{costs(billion, billion, billion, 1), most, 1_000_000},
		{costs(billion, billion, billion, 1), 2_000_000_999_999_999, 999_999},
		{costs(billion, 0, 0, 0), billion, 1_000_000},
	} {
		got, e := sample.Afford(c.rules, c.cents)
		gives(t, got, e, c.want)
	}
	for _, r := range []api.CostRules{costs(100, 10, 50, 4), costs(100, 0, 0, 0), costs(billion, 1, 1, 1)} {
		for _, cents := range []int{0, 1, r.Once - 1} {
			got, e := sample.Afford(r, cents)
			fails(t, got, e, api.ErrRule)
		}
	}
	for _, r := range badCosts() {
		for _, cents := range []int{0, 1_000} {
			got, e := sample.Afford(r, cents)
			fails(t, got, e, api.ErrArg)
		}
	}
	for _, cents := range []int{-1, most + 1, -most, -1 << 62, 1 << 62} {
		for _, r := range []api.CostRules{{}, costs(100, 10, 50, 4)} {
			got, e := sample.Afford(r, cents)
			fails(t, got, e, api.ErrArg)
		}
	}
}

// P9.7: one item more costs too much.
func TestAffordRandom(t *testing.T) {
	r := rand.New(rand.NewPCG(9, 77))
	for range 5_000 {
		rules := costs(r.IntN(1_000), r.IntN(20), r.IntN(50), r.IntN(9))
		cents := r.IntN(1 + r.IntN(20_000_000))
		got, e := sample.Afford(rules, cents)
		if rules.Once > cents {
			fails(t, got, e, api.ErrRule)
			continue
		}
		is(t, e, api.OK)
		paid, e := sample.Cost(rules, got)
		is(t, e, api.OK)
		is(t, paid <= cents, true)
		if got < api.MaxCounts {
			more, e := sample.Cost(rules, got+1)
			is(t, e, api.OK)
			is(t, more > cents, true)
		}
	}
}
