package review

import (
	"slices"

	"paperchase/api"
	"paperchase/intake"
	"paperchase/shape"
)

// What an item is.
const (
	stateOpen = iota
	stateOut
	stateDone
)

// notReturned is the In of a batch that is out.
const notReturned = -1

// Desk hands out batches.
type Desk struct {
	families [][]string     // Ids, in the order of the desk
	states   map[string]int // by Id
	batches  []api.Batch
	busy     map[string]bool // reviewers with a batch that is out
	last     int             // the greatest Out or In
}

// New returns a desk for items.
func New(items []api.Item, order []string) (*Desk, api.Errno) {
	families, e := intake.Families(items)
	if e != api.OK {
		return nil, e
	}
	byTop := map[string][]string{}
	for _, f := range families {
		byTop[f.Top] = f.Items
	}
	x := &Desk{states: map[string]int{}, busy: map[string]bool{}}
	first := map[string]bool{}
	for _, top := range order {
		if byTop[top] == nil {
			return nil, api.ErrNone
		}
		if first[top] {
			return nil, api.ErrTwice
		}
		first[top] = true
		x.families = append(x.families, byTop[top])
	}
	for _, f := range families {
		if !first[f.Top] {
			x.families = append(x.families, f.Items)
		}
	}
	for _, one := range items {
		x.states[one.Id] = stateOpen
	}
	return x, api.OK
}

// openOf returns which of some items are open.
func (x *Desk) openOf(ids []string) []string {
	var open []string
	for _, id := range ids {
		if x.states[id] == stateOpen {
			open = append(open, id)
		}
	}
	return open
}

// checkMoment validates the moment of what happens next.
func (x *Desk) checkMoment(at int) api.Errno {
	if !shape.Moment(at) {
		return api.ErrArg
	}
	if at < x.last {
		return api.ErrOrder
	}
	return api.OK
}

// Take hands a batch to a reviewer.
func (x *Desk) Take(reviewer string, at, most int) (api.Batch, api.Errno) {
	if !shape.Key(reviewer) {
		return api.Batch{}, api.ErrName
	}
	if e := x.checkMoment(at); e != api.OK {
		return api.Batch{}, e
	}
	if most < 1 || most > api.MaxBatch {
		return api.Batch{}, api.ErrArg
	}
	if x.busy[reviewer] {
		return api.Batch{}, api.ErrState
	}
	ids := x.next(most)
	if len(ids) == 0 {
		return api.Batch{}, api.ErrNone
	}
	b := api.Batch{No: len(x.batches) + 1, Out: at, In: notReturned, Reviewer: reviewer, Items: ids}
	for _, id := range ids {
		x.states[id] = stateOut
	}
	x.batches = append(x.batches, b)
	x.busy[reviewer] = true
	x.last = at
	return copyBatch(b), api.OK
}

// next returns the items of the next batch.
func (x *Desk) next(most int) []string {
	var ids []string
	for _, family := range x.families {
		open := x.openOf(family)
		if len(ids) > 0 && len(ids)+len(open) > most {
			break
		}
		ids = append(ids, open...)
	}
	return ids
}

func copyBatch(b api.Batch) api.Batch {
	b.Items = slices.Clone(b.Items)
	return b
}

// Return takes a batch back.
func (x *Desk) Return(no, at int, done []string) api.Errno {
	if no < 1 || no > len(x.batches) {
		return api.ErrNone
	}
	b := &x.batches[no-1]
	if b.In != notReturned {
		return api.ErrState
	}
	if e := x.checkMoment(at); e != api.OK {
		return e
	}
	if e := checkDone(b.Items, done); e != api.OK {
		return e
	}
	for _, id := range b.Items {
		x.states[id] = stateOpen
	}
	for _, id := range done {
		x.states[id] = stateDone
	}
	delete(x.busy, b.Reviewer)
	b.In = at
	x.last = at
	return api.OK
}

// checkDone validates what is done of the items of a batch.
func checkDone(ids, done []string) api.Errno {
	seen := map[string]bool{}
	for _, id := range ids {
		seen[id] = false
	}
	for _, id := range done {
		before, ok := seen[id]
		if !ok {
			return api.ErrNone
		}
		if before {
			return api.ErrTwice
		}
		seen[id] = true
	}
	return api.OK
}

// Batches returns all batches.
func (x *Desk) Batches() []api.Batch {
	var l []api.Batch
	for _, b := range x.batches {
		l = append(l, copyBatch(b))
	}
	return l
}

// Progress returns how far the review is.
func (x *Desk) Progress() api.Progress {
	p := api.Progress{Items: len(x.states)}
	for _, state := range x.states {
		switch state {
		case stateOpen:
			p.Open++
		case stateOut:
			p.Out++
		case stateDone:
			p.Coded++
		}
	}
	return p
}

// Left returns the open items.
func (x *Desk) Left() []string {
	var ids []string
	for _, family := range x.families {
		ids = append(ids, x.openOf(family)...)
	}
	return ids
}
