package near_test

import (
	"math"
	"math/rand/v2"
	"slices"
	"strings"
	"testing"

	"paperchase/api"
	"paperchase/near"
)

// P3.2
func TestShingles(t *testing.T) {
	for _, c := range []struct {
		text string
		k    int
		want []string
	}{
		{"", 1, nil},
		{" ,\n", 2, nil},
		{"one", 1, []string{"one"}},
		{"one", 3, []string{"one"}},
		{"b, A", 3, []string{"b a"}},
		{"b A", 2, []string{"b a"}},
		{"A b a b a", 2, []string{"a b", "b a"}},
		{"a b c", 2, []string{"a b", "b c"}},
		{"c b a", 1, []string{"a", "b", "c"}},
		{"b a a a\nB", 1, []string{"a", "b"}},
		{"z-y x", 2, []string{"y x", "z y"}},
		{"1 2 3 4 5 6 7 8 9 10 11", 10, []string{"1 2 3 4 5 6 7 8 9 10", "2 3 4 5 6 7 8 9 10 11"}},
		{"1 2 3 4 5 6 7 8 9", 10, []string{"1 2 3 4 5 6 7 8 9"}},
		{"ab a b", 1, []string{"a", "ab", "b"}},
		{xs(api.MaxBody), 10, []string{xs(api.MaxBody)}},
	} {
		is(t, shingles(t, c.text, c.k), c.want)
	}
}

// badRuns are numbers of words that no shingle has.
var badRuns = []int{0, -1, 11, math.MinInt, math.MaxInt}

// P3.2
func TestShinglesErrors(t *testing.T) {
	large := xs(api.MaxBody + 1)
	for _, k := range badRuns {
		l, e := near.Shingles("a b", k)
		fails(t, e, api.ErrArg, l)
		l, e = near.Shingles(large, k)
		fails(t, e, api.ErrLarge, l)
		for _, measure := range []func(a, b string, k int) (api.Fraction, api.Errno){near.Resemblance, near.Containment} {
			f, e := measure("a", "b", k)
			fails(t, e, api.ErrArg, f)
			f, e = measure("a", large, k)
			fails(t, e, api.ErrArg, f)
			f, e = measure(large, "a", k)
			fails(t, e, api.ErrLarge, f)
			f, e = measure("a", large, 1)
			fails(t, e, api.ErrLarge, f)
		}
	}
	l, e := near.Shingles(large, 1)
	fails(t, e, api.ErrLarge, l)
}

// P3.2
func TestResemblance(t *testing.T) {
	for _, c := range []struct {
		a, b       string
		k          int
		like, part api.Fraction
	}{
		{"a b c", "a b d", 2, fraction(1, 3), fraction(1, 2)},
		{"", "", 1, fraction(1, 1), fraction(1, 1)},
		{"", "?", 10, fraction(1, 1), fraction(1, 1)},
		{"", "a", 1, fraction(0, 1), fraction(1, 1)},
		{"a b", "", 1, fraction(0, 1), fraction(0, 1)},
		{"a b", "c d", 1, fraction(0, 1), fraction(0, 1)},
		{"a b", "B a", 1, fraction(1, 1), fraction(1, 1)},
		{"a b", "b a", 2, fraction(0, 1), fraction(0, 1)},
		{"a b", "a b c", 1, fraction(2, 3), fraction(1, 1)},
		{"a b c", "a b", 1, fraction(2, 3), fraction(2, 3)},
		{"a b c d", "c d", 1, fraction(1, 2), fraction(1, 2)},
		{"a a a", "A", 1, fraction(1, 1), fraction(1, 1)},
		{"a b", "a b c", 3, fraction(0, 1), fraction(0, 1)},
	} {
		is(t, resemblance(t, c.a, c.b, c.k), c.like)
		is(t, resemblance(t, c.b, c.a, c.k), c.like)
		part, e := near.Containment(c.a, c.b, c.k)
		is(t, []any{part, e}, []any{c.part, api.OK})
	}
}

func lowest(num, den int) api.Fraction {
	for d := den; d > 1; d-- {
		if num%d == 0 && den%d == 0 {
			return fraction(num/d, den/d)
		}
	}
	return fraction(num, den)
}

// P3.2: against the words one after the other.
func TestShinglesOfAnything(t *testing.T) {
	r := rand.New(rand.NewPCG(3, 2))
	for range 2_000 {
		k := 1 + r.IntN(4)
		sets := [2]map[string]bool{{}, {}}
		var texts [2]string
		for side := range texts {
			texts[side] = randomText(r, 10)
			l := near.Words(texts[side])
			for i := range l {
				if i+k <= len(l) {
					sets[side][strings.Join(l[i:i+k], " ")] = true
				}
			}
			if 0 < len(l) && len(l) < k {
				sets[side][strings.Join(l, " ")] = true
			}
			got := shingles(t, texts[side], k)
			is(t, len(got), len(sets[side]))
			is(t, slices.IsSorted(got), true)
			for _, shingle := range got {
				is(t, sets[side][shingle], true)
			}
		}
		both := 0
		for shingle := range sets[0] {
			if sets[1][shingle] {
				both++
			}
		}
		if all := len(sets[0]) + len(sets[1]) - both; all > 0 {
			is(t, resemblance(t, texts[0], texts[1], k), lowest(both, all))
		}
		if len(sets[0]) > 0 {
			part, _ := near.Containment(texts[0], texts[1], k)
			is(t, part, lowest(both, len(sets[0])))
		}
	}
}

// P3.2
func TestCompare(t *testing.T) {
	for _, c := range []struct {
		a, b api.Fraction
		want int
	}{
		{fraction(0, 1), fraction(0, 1), 0},
		{fraction(1, 3), fraction(1, 3), 0},
		{fraction(1, 3), fraction(1, 2), -1},
		{fraction(2, 3), fraction(3, 5), 1},
		{fraction(0, 1), fraction(1, 1_000_000), -1},
		{fraction(1_000_000, 1), fraction(999_999, 1), 1},
		{fraction(999_999, 1_000_000), fraction(999_998, 999_999), 1},
		{fraction(1_000_000, 999_999), fraction(1, 1), 1},
		{fraction(333_333, 1_000_000), fraction(1, 3), -1},
	} {
		got, e := near.Compare(c.a, c.b)
		is(t, []any{got, e}, []any{c.want, api.OK})
		got, e = near.Compare(c.b, c.a)
		is(t, []any{got, e}, []any{-c.want, api.OK})
	}
	for _, bad := range []api.Fraction{
		{}, fraction(1, 0), fraction(0, 0), fraction(0, 2), fraction(2, 4), fraction(6, 3), fraction(1_000_000, 1_000_000), fraction(-1, 2), fraction(1, -2), fraction(-1, -2),
		fraction(1, 1_000_001), fraction(1_000_001, 1), fraction(math.MaxInt, 1), fraction(1, math.MaxInt), fraction(math.MinInt, 1), fraction(1, math.MinInt), fraction(math.MinInt, math.MinInt),
	} {
		n, e := near.Compare(bad, fraction(1, 2))
		fails(t, e, api.ErrForm, n)
		n, e = near.Compare(fraction(1, 2), bad)
		fails(t, e, api.ErrForm, n)
		n, e = near.Compare(bad, bad)
		fails(t, e, api.ErrForm, n)
	}
}
