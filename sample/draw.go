package sample

import (
	"cmp"
	"slices"
	"strings"

	"paperchase/api"
	"paperchase/sets"
	"paperchase/shape"
)

const (
	maxDen    = 1_000_000
	maxWeight = 1_000
)

// checkIds validates a list of ids.
func checkIds(ids []string) api.Errno {
	if len(ids) > api.MaxItems {
		return api.ErrLarge
	}
	return sets.Rising(ids, shape.Key, api.ErrName)
}

// checkSource validates what is drawn from.
func checkSource(ids []string, seed string) api.Errno {
	if e := checkIds(ids); e != api.OK {
		return e
	}
	return checkSeed(seed)
}

func checkSeed(seed string) api.Errno {
	if !shape.Key(seed) {
		return api.ErrName
	}
	return api.OK
}

// isMany says whether so many items can be asked for.
func isMany(n int) bool { return 0 <= n && n <= api.MaxItems }

// isShare says whether a fraction is one from 0 to 1.
func isShare(f api.Fraction) bool {
	return 1 <= f.Den && f.Den <= maxDen && 0 <= f.Num && f.Num <= f.Den
}

// Least returns the ids with the least hashes.
func Least(ids []string, seed string, many int) ([]string, api.Errno) {
	if e := checkSource(ids, seed); e != api.OK {
		return nil, e
	}
	if !isMany(many) {
		return nil, api.ErrArg
	}
	return least(ids, seed, many), api.OK
}

func least(ids []string, seed string, many int) []string {
	type ticket struct {
		hash int
		id   string
	}
	var tickets []ticket
	for _, id := range ids {
		tickets = append(tickets, ticket{hash(id, seed), id})
	}
	slices.SortFunc(tickets, func(x, y ticket) int {
		return cmp.Or(cmp.Compare(x.hash, y.hash), strings.Compare(x.id, y.id))
	})
	var drawn []string
	for _, x := range tickets[:min(many, len(tickets))] {
		drawn = append(drawn, x.id)
	}
	slices.Sort(drawn)
	return drawn
}

// Part returns the ids of a share.
func Part(ids []string, seed string, share api.Fraction) ([]string, api.Errno) {
	if e := checkSource(ids, seed); e != api.OK {
		return nil, e
	}
	if !isShare(share) {
		return nil, api.ErrArg
	}
	var part []string
	for _, id := range ids {
		if hash(id, seed)*share.Den < share.Num*hashes {
			part = append(part, id)
		}
	}
	return part, api.OK
}

// Split divides ids by weights.
func Split(ids []string, seed string, weights []int) ([][]string, api.Errno) {
	if e := checkSource(ids, seed); e != api.OK {
		return nil, e
	}
	ends, e := addUp(weights)
	if e != api.OK {
		return nil, e
	}
	sum := ends[len(ends)-1]
	parts := make([][]string, len(ends))
	for _, id := range ids {
		place := hash(id, seed) % sum
		i := slices.IndexFunc(ends, func(end int) bool { return place < end })
		parts[i] = append(parts[i], id)
	}
	return parts, api.OK
}

// addUp validates weights, and returns for each one the sum of all up to it.
func addUp(weights []int) ([]int, api.Errno) {
	if len(weights) == 0 {
		return nil, api.ErrForm
	}
	if len(weights) > api.MaxParts {
		return nil, api.ErrLarge
	}
	var sums []int
	sum := 0
	for _, weight := range weights {
		if weight < 0 || weight > maxWeight {
			return nil, api.ErrArg
		}
		sum += weight
		sums = append(sums, sum)
	}
	if sum == 0 {
		return nil, api.ErrArg
	}
	return sums, api.OK
}
