package sample

import (
	"sort"

	"paperchase/api"
)

const (
	maxPrice = 1_000_000_000
	maxPaid  = 10_000_000_000_000_000
)

// Stops returns after how many batches a review ends.
func Stops(batches [][]bool, r api.StopRule) (int, api.Errno) {
	if e := checkBatches(batches); e != api.OK {
		return 0, e
	}
	if r.Batches < 1 || r.Batches > api.MaxItems || !isShare(r.Most) {
		return 0, api.ErrArg
	}
	items, relevant := 0, 0 // of the last batches
	for i, batch := range batches {
		items += len(batch)
		relevant += count(batch)
		if i >= r.Batches {
			old := batches[i-r.Batches]
			items -= len(old)
			relevant -= count(old)
		}
		if i+1 >= r.Batches && relevant*r.Most.Den <= r.Most.Num*items {
			return i + 1, api.OK
		}
	}
	return 0, api.ErrNone
}

func checkBatches(batches [][]bool) api.Errno {
	if len(batches) > api.MaxItems {
		return api.ErrLarge
	}
	for _, batch := range batches {
		if len(batch) > api.MaxItems {
			return api.ErrLarge
		}
	}
	return api.OK
}

// count returns how many items are relevant.
func count(batch []bool) int {
	many := 0
	for _, yes := range batch {
		if yes {
			many++
		}
	}
	return many
}

// Cost returns what it costs to read a number of items.
func Cost(r api.CostRules, items int) (int, api.Errno) {
	if !areCostRules(r) || !areCounts(items) {
		return 0, api.ErrArg
	}
	return cost(r, items), api.OK
}

func areCostRules(r api.CostRules) bool {
	for _, price := range []int{r.Once, r.Read, r.Second} {
		if price < 0 || price > maxPrice {
			return false
		}
	}
	return areCounts(r.Every)
}

func cost(r api.CostRules, items int) int {
	cents := r.Once + items*r.Read
	if r.Every > 0 {
		cents += items / r.Every * r.Second
	}
	return cents
}

// Afford returns how many items can be paid.
func Afford(r api.CostRules, cents int) (int, api.Errno) {
	if !areCostRules(r) || cents < 0 || cents > maxPaid {
		return 0, api.ErrArg
	}
	if r.Once > cents {
		return 0, api.ErrRule
	}
	more := sort.Search(api.MaxCounts, func(i int) bool { return cost(r, i+1) > cents })
	return more, api.OK
}
