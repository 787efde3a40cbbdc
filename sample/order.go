package sample

import (
	"sort"

	"paperchase/api"
	"paperchase/ratio"
)

// Gains returns how many relevant items there are up to each one.
func Gains(relevant []bool) ([]int, api.Errno) {
	g, e := gainsOf(relevant)
	if e != api.OK {
		return nil, e
	}
	return g[1:], api.OK
}

// gains has how many relevant items there are among the first 0, 1 and so on, up to all.
type gains []int

func gainsOf(relevant []bool) (gains, api.Errno) {
	if len(relevant) > api.MaxItems {
		return nil, api.ErrLarge
	}
	g := gains{0}
	for i, yes := range relevant {
		next := g[i]
		if yes {
			next++
		}
		g = append(g, next)
	}
	return g, api.OK
}

func (g gains) items() int { return len(g) - 1 }

func (g gains) relevant() int { return g[g.items()] }

// Depth returns how many items have a share of all relevant ones.
func Depth(relevant []bool, share api.Fraction) (int, api.Errno) {
	g, e := gainsOf(relevant)
	if e != api.OK {
		return 0, e
	}
	if !isShare(share) {
		return 0, api.ErrArg
	}
	enough := func(i int) bool { return g[i]*share.Den >= share.Num*g.relevant() }
	return sort.Search(g.items(), enough), api.OK
}

// Area returns how much of what is relevant comes early.
func Area(relevant []bool) (api.Fraction, api.Errno) {
	g, e := gainsOf(relevant)
	if e != api.OK {
		return api.Fraction{}, e
	}
	if g.relevant() == 0 {
		return api.Fraction{}, api.ErrNone
	}
	sum := 0
	for _, gain := range g {
		sum += gain
	}
	return ratio.Lowest(sum, g.items()*g.relevant()), api.OK
}

// Knee returns after how many items most is gained over an even order.
func Knee(relevant []bool) (int, api.Errno) {
	g, e := gainsOf(relevant)
	if e != api.OK {
		return 0, e
	}
	knee := 0
	ahead := func(i int) int { return g[i]*g.items() - i*g.relevant() }
	for i := range g {
		if ahead(i) > ahead(knee) {
			knee = i
		}
	}
	return knee, api.OK
}
