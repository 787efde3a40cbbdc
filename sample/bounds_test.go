package sample_test

import (
	"math"
	"math/big"
	"math/rand/v2"
	"testing"

	"paperchase/api"
	"paperchase/sample"
)

func drawn(population, size, found int) api.Drawn {
	return api.Drawn{Population: population, Sample: size, Found: found}
}

// badLevels are no levels.
func badLevels() []api.Fraction {
	return []api.Fraction{
		{}, fraction(0, 1), fraction(1, 1), fraction(1, 0), fraction(0, 2), fraction(2, 2), fraction(3, 2), fraction(-1, 2),
		fraction(0, 1_000), fraction(1_000, 1_000), fraction(1, 1_001), fraction(500, 1_001), fraction(1_000, 1_001),
		fraction(-1, -2), fraction(1, -2), fraction(1+1<<32, 2), fraction(1, 2+1<<32), fraction(95, math.MaxInt),
		fraction(math.MinInt, math.MinInt), fraction(math.MaxInt, 2), fraction(math.MaxInt-1, math.MaxInt),
	}
}

// badDrawns are no samples.
func badDrawns() []api.Drawn {
	l := []api.Drawn{
		{}, drawn(10, 11, 0), drawn(1, 2, 0), drawn(59, 60, 0), drawn(api.MaxItems, api.MaxSample+1, 0), drawn(100, 61, 61),
		drawn(10, 5, 6), drawn(60, 60, 61), drawn(math.MaxInt, math.MaxInt, math.MaxInt),
	}
	for _, n := range outside(1, api.MaxItems) {
		l = append(l, drawn(n, 1, 0), drawn(n, 1, 1))
	}
	for _, n := range outside(1, api.MaxSample) {
		l = append(l, drawn(api.MaxItems, n, 0))
	}
	for _, n := range outside(0, 5) {
		l = append(l, drawn(10, 5, n))
	}
	return append(l, drawn(0, 0, 0), drawn(-1, -1, -1), drawn(10, -1, -1), drawn(10, 0, 0), drawn(10, 5, -1))
}

// eachBadDrawn calls a function with samples that are not right.
func eachBadDrawn(t *testing.T, call func(d api.Drawn) (any, api.Errno)) {
	t.Helper()
	for _, d := range badDrawns() {
		got, e := call(d)
		fails(t, got, e, api.ErrArg)
	}
}

// eachBadLevel calls a function with levels that are not right.
func eachBadLevel(t *testing.T, call func(level api.Fraction) (any, api.Errno)) {
	t.Helper()
	for _, level := range badLevels() {
		got, e := call(level)
		fails(t, got, e, api.ErrArg)
	}
}

// P9.3
func TestChecks(t *testing.T) {
	for _, level := range []api.Fraction{fraction(1, 2), fraction(1, 1_000), fraction(999, 1_000), fraction(95, 100), fraction(2, 4), fraction(2, 3)} {
		is(t, sample.CheckLevel(level), api.OK)
	}
	for _, level := range badLevels() {
		is(t, sample.CheckLevel(level), api.ErrArg)
	}
	for _, d := range []api.Drawn{drawn(1, 1, 0), drawn(1, 1, 1), drawn(60, 60, 60), drawn(61, 60, 0), drawn(2_000, 60, 60), drawn(2_000, 1, 0), drawn(10, 5, 5)} {
		is(t, sample.CheckDrawn(d), api.OK)
	}
	for _, d := range badDrawns() {
		is(t, sample.CheckDrawn(d), api.ErrArg)
	}
}

// isLikely says whether a sample has, with a chance of at least 1 - level, at least some and at most others relevant ones, if so many of the population are relevant.
func isLikely(d api.Drawn, relevant, least, most int, level api.Fraction) bool {
	choose := func(a, b int) *big.Int { return new(big.Int).Binomial(int64(a), int64(b)) }
	sum := new(big.Int)
	for i := least; i <= most; i++ {
		sum.Add(sum, new(big.Int).Mul(choose(relevant, i), choose(d.Population-relevant, d.Sample-i)))
	}
	chance := new(big.Rat).SetFrac(sum, choose(d.Population, d.Sample))
	return chance.Cmp(big.NewRat(int64(level.Den-level.Num), int64(level.Den))) >= 0
}

// P9.3
func TestBounds(t *testing.T) {
	for _, c := range []struct {
		d            api.Drawn
		level        api.Fraction
		most, fewest int
	}{
		{drawn(100, 10, 0), fraction(95, 100), 24, 0}, // the example
		{drawn(100, 10, 0), fraction(19, 20), 24, 0},
		{drawn(100, 10, 0), fraction(950, 1_000), 24, 0},
		{drawn(100, 9, 0), fraction(95, 100), 27, 0},
		{drawn(100, 10, 3), fraction(95, 100), 59, 10},
		{drawn(100, 10, 10), fraction(95, 100), 100, 76},
		{drawn(2_000, 60, 0), fraction(95, 100), 95, 0},
		{drawn(2_000, 60, 30), fraction(95, 100), 1_222, 778},
		{drawn(2_000, 60, 60), fraction(95, 100), 2_000, 1_905},
		{drawn(2_000, 60, 30), fraction(999, 1_000), 1_391, 609},
		{drawn(2_000, 60, 30), fraction(1, 1_000), 638, 1_362},
		{drawn(2_000, 60, 0), fraction(1, 1_000), 0, 0},
		{drawn(2_000, 60, 60), fraction(1, 1_000), 2_000, 2_000},
		{drawn(2_000, 60, 1), fraction(1, 3), 39, 36},
		{drawn(1_999, 59, 7), fraction(4, 5), 335, 163},
		{drawn(500, 60, 12), fraction(9, 10), 138, 69},
		{drawn(60, 60, 17), fraction(1, 2), 17, 17},
		{drawn(5, 5, 2), fraction(95, 100), 2, 2},
		{drawn(61, 60, 0), fraction(1, 2), 0, 0},
		{drawn(61, 60, 60), fraction(1, 2), 61, 61},
		{drawn(1, 1, 0), fraction(1, 2), 0, 0},
		{drawn(1, 1, 1), fraction(1, 2), 1, 1},
		{drawn(2, 1, 0), fraction(1, 2), 1, 0}, // a chance of just 1 - level
		{drawn(2, 1, 1), fraction(1, 2), 2, 1},
		{drawn(2, 1, 0), fraction(499, 1_000), 0, 0},
		{drawn(2, 1, 0), fraction(501, 1_000), 1, 0},
		{drawn(10, 4, 2), fraction(3, 4), 7, 3},
	} {
		got, e := sample.Most(c.d, c.level)
		gives(t, got, e, c.most)
		got, e = sample.Fewest(c.d, c.level)
		gives(t, got, e, c.fewest)
	}
	eachBadDrawn(t, func(d api.Drawn) (any, api.Errno) { return sample.Most(d, fraction(1, 2)) })
	eachBadDrawn(t, func(d api.Drawn) (any, api.Errno) { return sample.Fewest(d, fraction(1, 2)) })
	eachBadDrawn(t, func(d api.Drawn) (any, api.Errno) { return sample.Most(d, fraction(0, 0)) })
	eachBadDrawn(t, func(d api.Drawn) (any, api.Errno) { return sample.Fewest(d, fraction(0, 0)) })
	eachBadLevel(t, func(level api.Fraction) (any, api.Errno) { return sample.Most(drawn(9, 4, 1), level) })
	eachBadLevel(t, func(level api.Fraction) (any, api.Errno) { return sample.Fewest(drawn(9, 4, 1), level) })
}

// P9.3: a sample of one item, where the chance is just 1 - level.
func TestBoundsOfOne(t *testing.T) {
	for n := 1; n < 1_000; n++ {
		got, e := sample.Most(drawn(2_000, 1, 0), fraction(n, 1_000))
		gives(t, got, e, 2*n)
		got, e = sample.Fewest(drawn(2_000, 1, 1), fraction(n, 1_000))
		gives(t, got, e, 2_000-2*n)
	}
}

// P9.3: all samples of small populations.
func TestBoundsSmall(t *testing.T) {
	levels := []api.Fraction{fraction(1, 2), fraction(5, 10), fraction(1, 3), fraction(2, 3), fraction(95, 100), fraction(1, 1_000), fraction(999, 1_000), fraction(5, 6)}
	for population := 1; population <= 8; population++ {
		for size := 1; size <= population; size++ {
			for found := 0; found <= size; found++ {
				for _, level := range levels {
					d := drawn(population, size, found)
					most, fewest := -1, -1
					for relevant := found; relevant <= population-size+found; relevant++ {
						if isLikely(d, relevant, 0, found, level) {
							most = relevant
						}
						if fewest < 0 && isLikely(d, relevant, found, size, level) {
							fewest = relevant
						}
					}
					got, e := sample.Most(d, level)
					gives(t, got, e, most)
					got, e = sample.Fewest(d, level)
					gives(t, got, e, fewest)
				}
			}
		}
	}
}

// someLevel is a level of which the Den is great or small.
func someLevel(r *rand.Rand) api.Fraction {
	den := 2 + r.IntN(1+r.IntN(999))
	return fraction(1+r.IntN(den-1), den)
}

func someDrawn(r *rand.Rand) api.Drawn {
	population := 1 + r.IntN(1+r.IntN(api.MaxItems))
	size := 1 + r.IntN(min(population, api.MaxSample))
	return drawn(population, size, r.IntN(size+1))
}

// P9.3: one more than Most, and one less than Fewest, is not likely; and what follows.
func TestBoundsRandom(t *testing.T) {
	r := rand.New(rand.NewPCG(9, 3))
	for range 1_000 {
		d, level := someDrawn(r), someLevel(r)
		most, e := sample.Most(d, level)
		is(t, e, api.OK)
		is(t, isLikely(d, most, 0, d.Found, level), true)
		last := d.Population - d.Sample + d.Found
		is(t, d.Found <= most && most <= last, true)
		is(t, most < last && isLikely(d, most+1, 0, d.Found, level), false)
		fewest, e := sample.Fewest(d, level)
		is(t, e, api.OK)
		is(t, isLikely(d, fewest, d.Found, d.Sample, level), true)
		is(t, d.Found <= fewest && fewest <= last, true)
		is(t, fewest > d.Found && isLikely(d, fewest-1, d.Found, d.Sample, level), false)
		is(t, 2*level.Num < level.Den || fewest <= most, true)
		others, e := sample.Fewest(drawn(d.Population, d.Sample, d.Sample-d.Found), level)
		gives(t, most, e, d.Population-others)
		greater := fraction(level.Num+1, level.Den)
		if sample.CheckLevel(greater) == api.OK {
			more, _ := sample.Most(d, greater)
			less, _ := sample.Fewest(d, greater)
			is(t, more >= most && less <= fewest, true)
		}
		if d.Found < d.Sample {
			d.Found++
			more, _ := sample.Most(d, level)
			least, _ := sample.Fewest(d, level)
			is(t, more >= most && least >= fewest, true)
		}
	}
}

// P9.3
func TestEnough(t *testing.T) {
	for _, c := range []struct {
		population, most int
		level            api.Fraction
		want             int
	}{
		{100, 23, fraction(95, 100), 11},
		{100, 24, fraction(95, 100), 10},
		{100, 25, fraction(95, 100), 10},
		{4, 0, fraction(95, 100), 4},
		{1, 0, fraction(1, 2), 1},
		{1, 1, fraction(1, 2), 1},
		{60, 0, fraction(999, 1_000), 60},
		{61, 1, fraction(999, 1_000), 59},
		{100, 0, fraction(1, 1_000), 1},
		{2_000, 0, fraction(1, 1_000), 3},
		{2_000, 97, fraction(95, 100), 59},
		{2_000, 95, fraction(95, 100), 60},
		{2_000, 1_999, fraction(95, 100), 1},
		{2_000, 2_000, fraction(95, 100), 1},
		{1_000, 100, fraction(9, 10), 22},
	} {
		got, e := sample.Enough(c.population, c.most, c.level)
		gives(t, got, e, c.want)
	}
	for _, c := range []struct {
		population, most int
		level            api.Fraction
	}{
		{61, 0, fraction(999, 1_000)},
		{2_000, 0, fraction(1, 2)},
		{2_000, 94, fraction(95, 100)},
	} {
		got, e := sample.Enough(c.population, c.most, c.level)
		fails(t, got, e, api.ErrRule)
	}
	for _, population := range outside(1, api.MaxItems) {
		got, e := sample.Enough(population, 0, fraction(1, 2))
		fails(t, got, e, api.ErrArg)
		got, e = sample.Enough(population, population, fraction(1, 2))
		fails(t, got, e, api.ErrArg)
	}
	for _, population := range []int{1, 61, 2_000} {
		for _, most := range outside(0, population) {
			got, e := sample.Enough(population, most, fraction(1, 2))
			fails(t, got, e, api.ErrArg)
		}
	}
	eachBadLevel(t, func(level api.Fraction) (any, api.Errno) { return sample.Enough(9, 4, level) })
	eachBadLevel(t, func(level api.Fraction) (any, api.Errno) { return sample.Enough(2_000, 0, level) })
}

// P9.3
func TestEnoughRandom(t *testing.T) {
	r := rand.New(rand.NewPCG(9, 33))
	for range 200 {
		population, level := 1+r.IntN(1+r.IntN(api.MaxItems)), someLevel(r)
		most := r.IntN(1 + r.IntN(population+1))
		want := 0
		for size := min(population, api.MaxSample); size >= 1; size-- {
			missed, e := sample.Most(drawn(population, size, 0), level)
			is(t, e, api.OK)
			if missed <= most {
				want = size
			}
		}
		got, e := sample.Enough(population, most, level)
		if want == 0 {
			fails(t, got, e, api.ErrRule)
			continue
		}
		gives(t, got, e, want)
	}
}
