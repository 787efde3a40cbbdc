package intake

import (
	"slices"
	"strings"

	"paperchase/api"
	"paperchase/tree"
)

const nowhere = tree.None

// forest is items in the order of their Ids, with the number of each one's parent: nowhere if it has none, or if this is not among them.
type forest struct {
	items []api.Item
	up    []int
}

func plant(l []api.Item) forest {
	f := forest{items: l, up: make([]int, len(l))}
	for i, x := range l {
		f.up[i] = f.number(x.Parent)
	}
	return f
}

// find returns the place of an Id in items that are in order, and whether it is there.
func find(l []api.Item, id string) (int, bool) {
	return slices.BinarySearchFunc(l, id, func(x api.Item, id string) int { return strings.Compare(x.Id, id) })
}

func (f forest) number(id string) int {
	if id == "" {
		return nowhere
	}
	if i, ok := find(f.items, id); ok {
		return i
	}
	return nowhere
}

// hasCircle says whether some items are each other's parents. All other methods that follow parents need a forest without circles.
func (f forest) hasCircle() bool { return len(tree.Circles(f.up)) > 0 }

func (f forest) misplaced(i int) bool {
	if f.up[i] == nowhere {
		return false
	}
	kind := f.items[f.up[i]].Kind
	return kind != api.ItemMail && kind != api.ItemBox
}

func (f forest) tooDeep(i int) bool { return f.above(i) > api.MaxDepth-1 }

// above returns how many items are above an item.
func (f forest) above(i int) int {
	many := 0
	for at := f.up[i]; at != nowhere; at = f.up[at] {
		many++
	}
	return many
}

// top returns the uppermost item above an item, or itself.
func (f forest) top(i int) int {
	for f.up[i] != nowhere {
		i = f.up[i]
	}
	return i
}

// tops returns all items without a parent, in order.
func (f forest) tops() []int {
	var l []int
	for i := range f.up {
		if f.up[i] == nowhere {
			l = append(l, i)
		}
	}
	return l
}

// children returns for each item the numbers of its children, in order.
func (f forest) children() [][]int {
	kids := make([][]int, len(f.up))
	for i, up := range f.up {
		if up != nowhere {
			kids[up] = append(kids[up], i)
		}
	}
	return kids
}
