package sample

import (
	"sort"

	"paperchase/api"
	"paperchase/natural"
)

// CheckLevel validates a level.
func CheckLevel(level api.Fraction) api.Errno {
	if level.Den < 2 || level.Den > api.MaxLevel || level.Num < 1 || level.Num >= level.Den {
		return api.ErrArg
	}
	return api.OK
}

// CheckDrawn validates a sample.
func CheckDrawn(d api.Drawn) api.Errno {
	isSample := 1 <= d.Sample && d.Sample <= greatestSample(d.Population)
	isPart := 0 <= d.Found && d.Found <= d.Sample
	if !isPopulation(d.Population) || !isSample || !isPart {
		return api.ErrArg
	}
	return api.OK
}

func isPopulation(n int) bool { return 1 <= n && n <= api.MaxItems }

func greatestSample(population int) int { return min(population, api.MaxSample) }

func checkBound(d api.Drawn, level api.Fraction) api.Errno {
	if e := CheckDrawn(d); e != api.OK {
		return e
	}
	return CheckLevel(level)
}

// Most returns the greatest number of relevant items that is likely.
func Most(d api.Drawn, level api.Fraction) (int, api.Errno) {
	if e := checkBound(d, level); e != api.OK {
		return 0, e
	}
	return most(d, level), api.OK
}

func most(d api.Drawn, level api.Fraction) int {
	all := choices(d.Population, d.Sample)[d.Sample]
	limit := all.Times(small(level.Den - level.Num))
	// The more items are relevant, the less is the chance to find so few of them.
	more := sort.Search(d.Population-d.Sample, func(i int) bool {
		return samples(d, d.Found+i+1).Times(small(level.Den)).Compare(limit) < 0
	})
	return d.Found + more
}

// samples returns how many samples have at most Found relevant items, if so many items of the population are relevant.
func samples(d api.Drawn, relevant int) natural.Number {
	ofRelevant := choices(relevant, d.Found)
	ofOthers := choices(d.Population-relevant, d.Sample)
	var sum natural.Number
	for i, ways := range ofRelevant {
		sum = sum.Plus(ways.Times(ofOthers[d.Sample-i]))
	}
	return sum
}

// choices returns in how many ways one can choose 0, 1 and so on, up to a greatest number, of some things.
func choices(things, greatest int) []natural.Number {
	ways := []natural.Number{small(1)}
	for i := range greatest {
		rest := max(0, things-i)
		ways = append(ways, ways[i].Times(small(rest)).Over(uint32(i+1)))
	}
	return ways
}

func small(n int) natural.Number { return natural.Of(uint32(n)) }

// Fewest returns the least number of relevant items that is likely.
func Fewest(d api.Drawn, level api.Fraction) (int, api.Errno) {
	if e := checkBound(d, level); e != api.OK {
		return 0, e
	}
	// A sample with at least Found relevant items is one with at most the others not relevant.
	others := d
	others.Found = d.Sample - d.Found
	return d.Population - most(others, level), api.OK
}

// Enough returns the least sample after which not more than atMost items can have been missed.
func Enough(population, atMost int, level api.Fraction) (int, api.Errno) {
	if !isPopulation(population) || atMost < 0 || atMost > population {
		return 0, api.ErrArg
	}
	if e := CheckLevel(level); e != api.OK {
		return 0, e
	}
	greatest := greatestSample(population)
	// The more items are drawn without one that is found, the fewer are missed.
	size := 1 + sort.Search(greatest, func(i int) bool {
		return most(api.Drawn{Population: population, Sample: i + 1}, level) <= atMost
	})
	if size > greatest {
		return 0, api.ErrRule
	}
	return size, api.OK
}
