package thread

import (
	"cmp"
	"slices"
	"strings"

	"paperchase/api"
	"paperchase/tree"
)

const nowhere = tree.None

// forest is the ids of letters, in order, and for each one the number of its parent: nowhere if it has none.
type forest struct {
	ids    []string
	number map[string]int
	here   []bool
	up     []int
}

// grow validates letters, and puts their ids in relation.
func grow(l []api.Mail) (forest, api.Errno) {
	if e := CheckMails(l); e != api.OK {
		return forest{}, e
	}
	f := plant(l)
	for _, m := range l {
		f.here[f.number[m.Id]] = true
	}
	for _, i := range inOrder(l) {
		f.connect(l[i])
	}
	f.cutCircles()
	return f, api.OK
}

// plant returns the ids of right letters, none of them with a parent.
func plant(l []api.Mail) forest {
	f := forest{number: map[string]int{}}
	for _, m := range l {
		f.ids = append(append(f.ids, m.Id), m.Refs...)
	}
	slices.Sort(f.ids)
	f.ids = slices.Compact(f.ids)
	for i, id := range f.ids {
		f.number[id] = i
	}
	f.here = make([]bool, len(f.ids))
	f.up = slices.Repeat([]int{nowhere}, len(f.ids))
	return f
}

// inOrder returns the numbers of letters by At, then by Id.
func inOrder(l []api.Mail) []int {
	var order []int
	for i := range l {
		order = append(order, i)
	}
	slices.SortFunc(order, func(i, j int) int {
		return cmp.Or(cmp.Compare(l[i].At, l[j].At), strings.Compare(l[i].Id, l[j].Id))
	})
	return order
}

// connect sets the parent of a letter, and those of ids that no letter has if no earlier letter told them.
func (f forest) connect(m api.Mail) {
	for i, ref := range m.Refs {
		at := f.number[ref]
		if i > 0 && !f.here[at] && f.up[at] == nowhere {
			f.up[at] = f.number[m.Refs[i-1]]
		}
	}
	if len(m.Refs) > 0 {
		f.up[f.number[m.Id]] = f.number[m.Refs[len(m.Refs)-1]]
	}
}

// cutCircles leaves the parent of the least id of each circle out.
func (f forest) cutCircles() {
	for _, at := range tree.Circles(f.up) {
		f.up[f.leastOfCircle(at)] = nowhere
	}
}

func (f forest) leastOfCircle(start int) int {
	least := start
	for at := f.up[start]; at != start; at = f.up[at] {
		least = min(least, at)
	}
	return least
}

// chain returns the numbers of ids from the one without a parent down to one.
func (f forest) chain(at int) []int {
	var numbers []int
	for ; at != nowhere; at = f.up[at] {
		numbers = append(numbers, at)
	}
	slices.Reverse(numbers)
	return numbers
}

// Forest puts ids in relation.
func Forest(l []api.Mail) ([]api.Node, api.Errno) {
	f, e := grow(l)
	if e != api.OK {
		return nil, e
	}
	var nodes []api.Node
	for i, id := range f.ids {
		node := api.Node{Id: id, Here: f.here[i]}
		if f.up[i] != nowhere {
			node.Parent = f.ids[f.up[i]]
		}
		nodes = append(nodes, node)
	}
	return nodes, api.OK
}

// Missing returns the ids that no letter has.
func Missing(l []api.Mail) ([]string, api.Errno) {
	f, e := grow(l)
	if e != api.OK {
		return nil, e
	}
	var ids []string
	for i, id := range f.ids {
		if !f.here[i] {
			ids = append(ids, id)
		}
	}
	return ids, api.OK
}

// Chain returns the ids down to one.
func Chain(l []api.Mail, id string) ([]string, api.Errno) {
	f, e := grow(l)
	if e != api.OK {
		return nil, e
	}
	at, ok := f.number[id]
	if !ok {
		return nil, api.ErrNone
	}
	var ids []string
	for _, i := range f.chain(at) {
		ids = append(ids, f.ids[i])
	}
	return ids, api.OK
}
