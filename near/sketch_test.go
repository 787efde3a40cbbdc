package near_test

import (
	"hash/fnv"
	"math"
	"math/rand/v2"
	"slices"
	"testing"

	"paperchase/api"
	"paperchase/near"
)

// halfHash is the hash of a shingle.
func halfHash(s string) int {
	h := fnv.New64a()
	h.Write([]byte(s))
	return int(h.Sum64() / 2)
}

func sketch(t *testing.T, text string, k, size int) []int {
	t.Helper()
	l, e := near.Sketch(text, k, size)
	is(t, e, api.OK)
	return l
}

// P3.5
func TestSketch(t *testing.T) {
	is(t, sketch(t, "", 1, 1), []int{})
	is(t, sketch(t, "?", 1, 200), []int{})
	is(t, sketch(t, "A", 1, 1), []int{0xaf63dc4c8601ec8c / 2})
	is(t, sketch(t, "a a", 1, 200), []int{halfHash("a")})
	is(t, sketch(t, "B a", 3, 200), []int{halfHash("b a")})
	is(t, sketch(t, "\xff", 3, 200), []int{halfHash("\xff")})
	want := []int{halfHash("a b"), halfHash("b c"), halfHash("c a")}
	slices.Sort(want)
	for size := 1; size <= 4; size++ {
		is(t, sketch(t, "a b c a b", 2, size), want[:min(size, 3)])
	}
}

// P3.5
func TestSketchErrors(t *testing.T) {
	large := xs(api.MaxBody + 1)
	for _, size := range badSizes {
		l, e := near.Sketch("a", 1, size)
		fails(t, e, api.ErrArg, l)
		l, e = near.Sketch(large, 0, size)
		fails(t, e, api.ErrLarge, l)
	}
	for _, k := range badRuns {
		l, e := near.Sketch("a", k, 10)
		fails(t, e, api.ErrArg, l)
		l, e = near.Sketch(large, k, 10)
		fails(t, e, api.ErrLarge, l)
	}
}

// badSizes are sizes that no sketch has.
var badSizes = []int{0, -1, 201, math.MinInt, math.MaxInt}

// P3.5
func TestEstimate(t *testing.T) {
	for _, c := range []struct {
		a, b []int
		size int
		want api.Fraction
	}{
		{nil, nil, 1, fraction(1, 1)},
		{nil, []int{0}, 1, fraction(0, 1)},
		{[]int{7}, []int{7}, 200, fraction(1, 1)},
		{[]int{1, 2}, []int{2, 3}, 4, fraction(1, 3)},
		{[]int{1, 2}, []int{2, 3}, 3, fraction(1, 3)},
		// of the size least ones alone
		{[]int{1, 2}, []int{2, 3}, 2, fraction(1, 2)},
		{[]int{1, 4}, []int{2, 4}, 2, fraction(0, 1)},
		{[]int{1, 2, 3, 4}, []int{1, 3, 4, 5}, 4, fraction(3, 4)},
		{[]int{1, 2, 3, 6}, []int{3, 4, 5, 6}, 4, fraction(1, 4)},
		{[]int{0, math.MaxInt}, []int{math.MaxInt}, 2, fraction(1, 2)},
		{[]int{1, 2, 3, 4}, []int{3, 4, 5, 6}, 10, fraction(1, 3)},
	} {
		before := slices.Concat(c.a, c.b)
		f, e := near.Estimate(c.a, c.b, c.size)
		is(t, []any{f, e}, []any{c.want, api.OK})
		f, e = near.Estimate(c.b, c.a, c.size)
		is(t, []any{f, e}, []any{c.want, api.OK})
		is(t, slices.Concat(c.a, c.b), before)
	}
}

// P3.5
func TestEstimateErrors(t *testing.T) {
	good := []int{1, 2}
	for _, size := range badSizes {
		f, e := near.Estimate(good, []int{-1}, size)
		fails(t, e, api.ErrArg, f)
		f, e = near.Estimate(nil, nil, size)
		fails(t, e, api.ErrArg, f)
		f, e = near.Estimate(slices.Repeat(good, 200), nil, size)
		fails(t, e, api.ErrArg, f)
	}
	for _, c := range []struct {
		bad []int
		e   api.Errno
	}{
		{[]int{1, 2, 3}, api.ErrLarge},
		{[]int{-1, 2, 1}, api.ErrLarge},
		{[]int{-1}, api.ErrArg},
		{[]int{math.MinInt}, api.ErrArg},
		{[]int{1, -1}, api.ErrArg},
		{[]int{2, 1}, api.ErrOrder},
		{[]int{1, 1}, api.ErrOrder},
	} {
		f, e := near.Estimate(c.bad, good, 2)
		fails(t, e, c.e, f)
		f, e = near.Estimate(good, c.bad, 2)
		fails(t, e, c.e, f)
		for _, other := range [][]int{{1, 2, 3}, {-1}, {1, 0}} {
			f, e = near.Estimate(c.bad, other, 2)
			fails(t, e, c.e, f)
		}
	}
	// number by number: the second one is out of order before the third one is below 0
	f, e := near.Estimate([]int{2, 1, -1}, nil, 3)
	fails(t, e, api.ErrOrder, f)
}

// P3.5: if both strings have at most size shingles together, Estimate is Resemblance.
func TestEstimateIsResemblance(t *testing.T) {
	r := rand.New(rand.NewPCG(3, 5))
	for range 2_000 {
		k := 1 + r.IntN(3)
		a, b := randomText(r, 10), randomText(r, 10)
		all := slices.Concat(shingles(t, a, k), shingles(t, b, k))
		slices.Sort(all)
		size := max(1, len(slices.Compact(all)))
		f, e := near.Estimate(sketch(t, a, k, size), sketch(t, b, k, size), size)
		is(t, []any{f, e}, []any{resemblance(t, a, b, k), api.OK})
	}
}

// P3.5: of many shingles the least hashes.
func TestSketchOfMany(t *testing.T) {
	text := ""
	var hashes []int
	for i := range 2_000 {
		text += name("w", i) + " "
		hashes = append(hashes, halfHash(name("w", i)))
	}
	slices.Sort(hashes)
	for _, size := range []int{1, 2, 199, 200} {
		is(t, sketch(t, text, 1, size), hashes[:size])
	}
}
