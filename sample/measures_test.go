package sample_test

import (
	"math/big"
	"math/rand/v2"
	"slices"
	"testing"

	"paperchase/api"
	"paperchase/sample"
)

// lowest is a quotient as the library has it.
func lowest(num, den int) api.Fraction {
	q := big.NewRat(int64(num), int64(den))
	return fraction(int(q.Num().Int64()), int(q.Denom().Int64()))
}

// P9.4
func TestRecall(t *testing.T) {
	for _, c := range []struct {
		found int
		rest  api.Drawn
		want  api.Fraction
	}{
		{30, drawn(100, 10, 0), fraction(1, 1)}, // the example
		{0, drawn(100, 10, 1), fraction(0, 1)},
		{30, drawn(100, 10, 1), fraction(3, 4)},
		{30, drawn(100, 10, 3), fraction(1, 2)},
		{7, drawn(7, 7, 7), fraction(1, 2)},
		{1, drawn(2_000, 60, 60), fraction(1, 2_001)},
		{2_000, drawn(1_999, 59, 58), fraction(59_000, 116_971)},
		{2_000, drawn(1, 1, 1), fraction(2_000, 2_001)},
	} {
		got, e := sample.Recall(c.found, c.rest)
		gives(t, got, e, c.want)
	}
	for _, rest := range []api.Drawn{drawn(100, 10, 0), drawn(1, 1, 0), drawn(2_000, 60, 0)} {
		got, e := sample.Recall(0, rest)
		fails(t, got, e, api.ErrRule)
	}
	for _, found := range outside(0, api.MaxItems) {
		got, e := sample.Recall(found, drawn(100, 10, 0))
		fails(t, got, e, api.ErrArg)
	}
	eachBadDrawn(t, func(d api.Drawn) (any, api.Errno) { return sample.Recall(0, d) })
	eachBadDrawn(t, func(d api.Drawn) (any, api.Errno) { return sample.Recall(30, d) })
}

// P9.4
func TestSureRecall(t *testing.T) {
	for _, c := range []struct {
		found int
		rest  api.Drawn
		level api.Fraction
		want  api.Fraction
	}{
		{30, drawn(100, 10, 0), fraction(95, 100), fraction(5, 9)}, // the example
		{0, drawn(100, 10, 0), fraction(95, 100), fraction(0, 1)},
		{41, drawn(100, 10, 3), fraction(95, 100), fraction(41, 100)},
		{24, drawn(100, 10, 0), fraction(19, 20), fraction(1, 2)},
		{5, drawn(60, 60, 0), fraction(999, 1_000), fraction(1, 1)},
		{2_000, drawn(2_000, 60, 60), fraction(1, 2), fraction(1, 2)},
	} {
		got, e := sample.SureRecall(c.found, c.rest, c.level)
		gives(t, got, e, c.want)
	}
	got, e := sample.SureRecall(0, drawn(60, 60, 0), fraction(1, 2))
	fails(t, got, e, api.ErrRule)
	got, e = sample.SureRecall(0, drawn(2_000, 60, 0), fraction(1, 1_000))
	fails(t, got, e, api.ErrRule)
	for _, found := range outside(0, api.MaxItems) {
		got, e := sample.SureRecall(found, drawn(60, 60, 0), fraction(1, 2))
		fails(t, got, e, api.ErrArg)
	}
	for found := range 2 {
		eachBadDrawn(t, func(d api.Drawn) (any, api.Errno) { return sample.SureRecall(found, d, fraction(1, 2)) })
		eachBadLevel(t, func(level api.Fraction) (any, api.Errno) { return sample.SureRecall(found, drawn(60, 60, 0), level) })
	}
}

// P9.4
func TestElusion(t *testing.T) {
	for d, want := range map[api.Drawn]api.Fraction{
		drawn(100, 10, 0): fraction(0, 1), drawn(100, 10, 1): fraction(1, 10), drawn(100, 10, 4): fraction(2, 5),
		drawn(100, 10, 10): fraction(1, 1), drawn(1, 1, 0): fraction(0, 1), drawn(2_000, 60, 59): fraction(59, 60), drawn(2_000, 60, 45): fraction(3, 4),
	} {
		got, e := sample.Elusion(d)
		gives(t, got, e, want)
	}
	eachBadDrawn(t, func(d api.Drawn) (any, api.Errno) { return sample.Elusion(d) })
}

// P9.4
func TestEstimate(t *testing.T) {
	for _, c := range []struct {
		l    []api.Drawn
		want api.Fraction
	}{
		{nil, fraction(0, 1)},
		{[]api.Drawn{drawn(100, 10, 0)}, fraction(0, 1)},
		{[]api.Drawn{drawn(100, 10, 3)}, fraction(30, 1)},
		{[]api.Drawn{drawn(7, 3, 1)}, fraction(7, 3)},
		{[]api.Drawn{drawn(10, 4, 1), drawn(9, 6, 2)}, fraction(11, 2)},
		{[]api.Drawn{drawn(7, 3, 1), drawn(7, 3, 1), drawn(7, 3, 1)}, fraction(7, 1)},
		{[]api.Drawn{drawn(2_000, 60, 60), drawn(2_000, 60, 60), drawn(2_000, 60, 60), drawn(2_000, 60, 60), drawn(2_000, 60, 60)}, fraction(10_000, 1)},
	} {
		got, e := sample.Estimate(c.l)
		gives(t, got, e, c.want)
	}
	for _, d := range []api.Drawn{drawn(10, 5, 2), {}} {
		got, e := sample.Estimate(slices.Repeat([]api.Drawn{d}, api.MaxStrata+1))
		fails(t, got, e, api.ErrLarge)
	}
	eachBadDrawn(t, func(d api.Drawn) (any, api.Errno) { return sample.Estimate([]api.Drawn{d}) })
	eachBadDrawn(t, func(d api.Drawn) (any, api.Errno) { return sample.Estimate([]api.Drawn{drawn(10, 5, 2), d}) })
	eachBadDrawn(t, func(d api.Drawn) (any, api.Errno) { return sample.Estimate([]api.Drawn{d, drawn(10, 5, 2)}) })
	eachBadDrawn(t, func(d api.Drawn) (any, api.Errno) {
		return sample.Estimate(append(slices.Repeat([]api.Drawn{drawn(10, 5, 2)}, api.MaxStrata-1), d))
	})
	l := roomy([]api.Drawn{drawn(10, 4, 1), drawn(9, 6, 2)})
	keeps(t, func() any {
		got, _ := sample.Estimate(l)
		return got
	}, l)
}

// P9.4: the fractions of the document's words, in lowest terms.
func TestRecallRandom(t *testing.T) {
	r := rand.New(rand.NewPCG(9, 4))
	for range 1_000 {
		d, level, found := someDrawn(r), someLevel(r), 1+r.IntN(api.MaxItems)
		got, e := sample.Recall(found, d)
		gives(t, got, e, lowest(found*d.Sample, found*d.Sample+d.Population*d.Found))
		most, e := sample.Most(d, level)
		is(t, e, api.OK)
		got, e = sample.SureRecall(found, d, level)
		gives(t, got, e, lowest(found, found+most))
		got, e = sample.Elusion(d)
		gives(t, got, e, lowest(d.Found, d.Sample))
		var l []api.Drawn
		sum := new(big.Rat)
		for range r.IntN(api.MaxStrata + 1) {
			d := someDrawn(r)
			l = append(l, d)
			sum.Add(sum, big.NewRat(int64(d.Population*d.Found), int64(d.Sample)))
		}
		got, e = sample.Estimate(l)
		gives(t, got, e, fraction(int(sum.Num().Int64()), int(sum.Denom().Int64())))
	}
}

// P9.4: the greatest denominators.
func TestEstimateGreat(t *testing.T) {
	var l []api.Drawn
	sum := new(big.Rat)
	for _, size := range []int{59, 53, 47, 43, 60} {
		l = append(l, drawn(1_999, size, size-1))
		sum.Add(sum, big.NewRat(int64(1_999*(size-1)), int64(size)))
	}
	got, e := sample.Estimate(l)
	gives(t, got, e, fraction(int(sum.Num().Int64()), int(sum.Denom().Int64())))
}

// P9.5
func TestJudge(t *testing.T) {
	one := fraction(1, 1)
	for _, c := range []struct {
		right, wrong, missed    int
		precision, recall, both api.Fraction
	}{
		{8, 2, 8, fraction(4, 5), fraction(1, 2), fraction(8, 13)},
		{0, 0, 0, one, one, one},
		{5, 0, 0, one, one, one},
		{0, 5, 0, fraction(0, 1), one, fraction(0, 1)},
		{0, 0, 5, one, fraction(0, 1), fraction(0, 1)},
		{0, 3, 5, fraction(0, 1), fraction(0, 1), fraction(0, 1)},
		{3, 0, 1, one, fraction(3, 4), fraction(6, 7)},
		{3, 1, 0, fraction(3, 4), one, fraction(6, 7)},
		{1_000_000, 1_000_000, 1_000_000, fraction(1, 2), fraction(1, 2), fraction(1, 2)},
		{999_999, 1_000_000, 1, fraction(999_999, 1_999_999), fraction(999_999, 1_000_000), fraction(1_999_998, 2_999_999)},
	} {
		got, e := sample.Judge(c.right, c.wrong, c.missed)
		gives(t, got, e, api.Measures{Precision: c.precision, Recall: c.recall, Both: c.both})
	}
	for _, n := range outside(0, api.MaxCounts) {
		for _, m := range []int{0, 7} {
			got, e := sample.Judge(n, m, m)
			fails(t, got, e, api.ErrArg)
			got, e = sample.Judge(m, n, m)
			fails(t, got, e, api.ErrArg)
			got, e = sample.Judge(m, m, n)
			fails(t, got, e, api.ErrArg)
		}
	}
}

// P9.5
func TestKappa(t *testing.T) {
	for _, c := range []struct {
		both, first, second, neither int
		want                         api.Fraction
	}{
		{20, 5, 10, 15, fraction(2, 5)},
		{20, 10, 5, 15, fraction(2, 5)},
		{1, 0, 0, 0, fraction(1, 1)}, // t * t is e
		{0, 0, 0, 1_000_000, fraction(1, 1)},
		{1, 0, 0, 1, fraction(1, 1)},
		{0, 1, 1, 0, fraction(-1, 1)},
		{0, 1, 0, 0, fraction(0, 1)},
		{0, 0, 1, 0, fraction(0, 1)},
		{5, 5, 0, 0, fraction(0, 1)},
		{1, 1, 1, 1, fraction(0, 1)},
		{1, 2, 2, 1, fraction(-1, 3)},
		{4, 1, 3, 0, fraction(-3, 13)},
		{1_000_000, 1_000_000, 1_000_000, 1_000_000, fraction(0, 1)},
		{1_000_000, 0, 0, 1_000_000, fraction(1, 1)},
		{0, 1_000_000, 1_000_000, 0, fraction(-1, 1)},
	} {
		got, e := sample.Kappa(c.both, c.first, c.second, c.neither)
		gives(t, got, e, c.want)
	}
	got, e := sample.Kappa(0, 0, 0, 0)
	fails(t, got, e, api.ErrNone)
	for _, n := range outside(0, api.MaxCounts) {
		for i := range 4 {
			for _, m := range []int{0, 7} {
				l := []int{m, m, m, m}
				l[i] = n
				got, e := sample.Kappa(l[0], l[1], l[2], l[3])
				fails(t, got, e, api.ErrArg)
			}
		}
	}
}

// P9.5
func TestMeasuresRandom(t *testing.T) {
	r := rand.New(rand.NewPCG(9, 5))
	part := func(some, all int) api.Fraction {
		if all == 0 {
			return fraction(1, 1)
		}
		return lowest(some, all)
	}
	for range 20_000 {
		l := make([]int, 4)
		most := 1 + r.IntN(1+r.IntN(api.MaxCounts+1))
		for i := range l {
			l[i] = r.IntN(2) * r.IntN(most)
		}
		got, e := sample.Judge(l[0], l[1], l[2])
		gives(t, got, e, api.Measures{Precision: part(l[0], l[0]+l[1]), Recall: part(l[0], l[0]+l[2]), Both: part(2*l[0], 2*l[0]+l[1]+l[2])})
		all := l[0] + l[1] + l[2] + l[3]
		if all == 0 {
			continue
		}
		byChance := (l[0]+l[1])*(l[0]+l[2]) + (l[2]+l[3])*(l[1]+l[3])
		kappa, e := sample.Kappa(l[0], l[1], l[2], l[3])
		gives(t, kappa, e, part((l[0]+l[3])*all-byChance, all*all-byChance))
	}
}
