package sample

import (
	"slices"

	"paperchase/api"
	"paperchase/sets"
	"paperchase/shape"
)

// Allocate divides a number over parts.
func Allocate(sizes []int, many int) ([]int, api.Errno) {
	if len(sizes) > api.MaxItems {
		return nil, api.ErrLarge
	}
	for _, size := range sizes {
		if !isMany(size) {
			return nil, api.ErrArg
		}
	}
	if !isMany(many) {
		return nil, api.ErrArg
	}
	return allocate(sizes, many), api.OK
}

func allocate(sizes []int, many int) []int {
	sum := 0
	for _, size := range sizes {
		sum += size
	}
	if many >= sum {
		return slices.Clone(sizes)
	}
	var shares, order []int
	left := many
	for i, size := range sizes {
		share := many * size / sum
		shares = append(shares, share)
		order = append(order, i)
		left -= share
	}
	remainder := func(i int) int { return many * sizes[i] % sum }
	slices.SortStableFunc(order, func(i, j int) int { return remainder(j) - remainder(i) })
	for _, i := range order[:left] {
		shares[i]++
	}
	return shares
}

// Strata draws from strata.
func Strata(l []api.Stratum, seed string, many int) ([][]string, api.Errno) {
	if e := checkStrata(l); e != api.OK {
		return nil, e
	}
	if e := checkSeed(seed); e != api.OK {
		return nil, e
	}
	if !isMany(many) {
		return nil, api.ErrArg
	}
	var sizes []int
	for _, s := range l {
		sizes = append(sizes, len(s.Ids))
	}
	var drawn [][]string
	for i, share := range allocate(sizes, many) {
		drawn = append(drawn, least(l[i].Ids, seed, share))
	}
	return drawn, api.OK
}

func checkStrata(l []api.Stratum) api.Errno {
	if len(l) > api.MaxParts {
		return api.ErrLarge
	}
	for i, s := range l {
		earlier := l[:i]
		if !shape.Key(s.Name) {
			return api.ErrName
		}
		if slices.ContainsFunc(earlier, func(x api.Stratum) bool { return x.Name == s.Name }) {
			return api.ErrTwice
		}
		if e := checkIds(s.Ids); e != api.OK {
			return e
		}
		if slices.ContainsFunc(earlier, func(x api.Stratum) bool { return sets.Shared(x.Ids, s.Ids) > 0 }) {
			return api.ErrTwice
		}
	}
	return api.OK
}
