package sample_test

import (
	"math/rand/v2"
	"slices"
	"testing"

	"paperchase/api"
	"paperchase/sample"
)

// order has a relevant item for each sign `+`.
func order(s string) []bool {
	var l []bool
	for _, c := range s {
		l = append(l, c == '+')
	}
	return l
}

// eachLongOrder calls a function with orders that are too long.
func eachLongOrder(t *testing.T, call func(relevant []bool) (any, api.Errno)) {
	t.Helper()
	for _, yes := range []bool{false, true} {
		got, e := call(slices.Repeat([]bool{yes}, api.MaxItems+1))
		fails(t, got, e, api.ErrLarge)
	}
}

// P9.6
func TestGains(t *testing.T) {
	for s, want := range map[string][]int{
		"": nil, "-": {0}, "+": {1}, "++-+--": {1, 2, 2, 3, 3, 3}, "--+": {0, 0, 1}, "+++": {1, 2, 3}, "---": {0, 0, 0},
	} {
		got, e := sample.Gains(order(s))
		gives(t, got, e, want)
	}
	got, e := sample.Gains(slices.Repeat([]bool{true}, api.MaxItems))
	is(t, e, api.OK)
	is(t, len(got), api.MaxItems)
	is(t, got[api.MaxItems-1], api.MaxItems)
	eachLongOrder(t, func(relevant []bool) (any, api.Errno) { return sample.Gains(relevant) })
	l := roomy(order("+-+"))
	keeps(t, func() any {
		got, _ := sample.Gains(l)
		return got
	}, l)
}

// P9.6
func TestDepth(t *testing.T) {
	for _, c := range []struct {
		order string
		share api.Fraction
		want  int
	}{
		{"", fraction(0, 1), 0},
		{"", fraction(1, 1), 0},
		{"---", fraction(0, 1), 0},
		{"---", fraction(1, 1), 0},
		{"++-+--", fraction(0, 1), 0},
		{"++-+--", fraction(0, 1_000_000), 0},
		{"++-+--", fraction(1, 1_000_000), 1},
		{"++-+--", fraction(1, 3), 1},
		{"++-+--", fraction(333_334, 1_000_000), 2},
		{"++-+--", fraction(2, 3), 2},
		{"++-+--", fraction(4, 6), 2},
		{"++-+--", fraction(666_667, 1_000_000), 4},
		{"++-+--", fraction(1, 1), 4},
		{"++-+--", fraction(1_000_000, 1_000_000), 4},
		{"-+", fraction(1, 2), 2},
		{"--+-", fraction(1, 100), 3},
	} {
		got, e := sample.Depth(order(c.order), c.share)
		gives(t, got, e, c.want)
	}
	all := slices.Repeat([]bool{true}, api.MaxItems)
	got, e := sample.Depth(all, fraction(999_999, 1_000_000))
	gives(t, got, e, api.MaxItems)
	for _, share := range badShares() {
		for _, s := range []string{"", "---", "+-+"} {
			got, e := sample.Depth(order(s), share)
			fails(t, got, e, api.ErrArg)
		}
	}
	eachLongOrder(t, func(relevant []bool) (any, api.Errno) { return sample.Depth(relevant, api.Fraction{}) })
}

// P9.6
func TestArea(t *testing.T) {
	for s, want := range map[string]api.Fraction{
		"++-+--": fraction(7, 9), "+": fraction(1, 1), "+-": fraction(1, 1), "-+": fraction(1, 2), "---+": fraction(1, 4), "++": fraction(3, 4), "+--+": fraction(5, 8),
	} {
		got, e := sample.Area(order(s))
		gives(t, got, e, want)
	}
	all := slices.Repeat([]bool{true}, api.MaxItems)
	got, e := sample.Area(all)
	gives(t, got, e, fraction(2_001, 4_000))
	for _, s := range []string{"", "-", "----"} {
		got, e := sample.Area(order(s))
		fails(t, got, e, api.ErrNone)
	}
	eachLongOrder(t, func(relevant []bool) (any, api.Errno) { return sample.Area(relevant) })
}

// P9.6
func TestKnee(t *testing.T) {
	for s, want := range map[string]int{
		"": 0, "-": 0, "+": 0, "---": 0, "+++": 0, "++-+--": 2, "+-": 1, "-+": 0, "--++": 0, "+--+": 1, "-+-": 2, "+-+-": 1, "--+++---": 5, "+-++--": 4, "++++------+": 4,
	} {
		got, e := sample.Knee(order(s))
		gives(t, got, e, want)
	}
	got, e := sample.Knee(slices.Concat(slices.Repeat([]bool{true}, 1_999), []bool{false}))
	gives(t, got, e, 1_999)
	eachLongOrder(t, func(relevant []bool) (any, api.Errno) { return sample.Knee(relevant) })
}

// P9.6: the words of the document, number by number.
func TestOrdersRandom(t *testing.T) {
	r := rand.New(rand.NewPCG(9, 6))
	for range 5_000 {
		l := make([]bool, r.IntN(30))
		often := r.IntN(5)
		gains := []int{0}
		sum := 0
		for i := range l {
			l[i] = r.IntN(4) < often
			gain := gains[i]
			if l[i] {
				gain++
			}
			gains = append(gains, gain)
			sum += gain
		}
		items, relevant := len(l), gains[len(l)]
		got, e := sample.Gains(l)
		gives(t, got, e, gains[1:])
		den := 1 + r.IntN(40)
		num := r.IntN(den + 1)
		depth := 0
		for gains[depth]*den < num*relevant {
			depth++
		}
		many, e := sample.Depth(l, fraction(num, den))
		gives(t, many, e, depth)
		knee := 0
		for i, gain := range gains {
			if gain*items-i*relevant > gains[knee]*items-knee*relevant {
				knee = i
			}
		}
		many, e = sample.Knee(l)
		gives(t, many, e, knee)
		area, e := sample.Area(l)
		if relevant == 0 {
			fails(t, area, e, api.ErrNone)
		} else {
			gives(t, area, e, lowest(sum, items*relevant))
		}
	}
	l := roomy(order("+-+--"))
	keeps(t, func() any {
		sample.Depth(l, fraction(1, 2))
		sample.Area(l)
		sample.Knee(l)
		return nil
	}, l)
}
