package intake

import (
	"slices"

	"paperchase/api"
)

// Store keeps items as they come.
type Store struct {
	items []api.Item // by Id
}

// New returns an empty store.
func New() *Store { return &Store{} }

// Add adds an item.
func (x *Store) Add(i api.Item) (bool, api.Errno) {
	if e := CheckItem(i); e != api.OK {
		return false, e
	}
	many, e := x.take([]api.Item{i})
	return many > 0, e
}

// Join adds all items of another store.
func (x *Store) Join(y *Store) (int, api.Errno) {
	return x.take(y.items)
}

// take adds items with different Ids, all of them or none, and returns how many were new.
func (x *Store) take(more []api.Item) (int, api.Errno) {
	var fresh []api.Item
	for _, i := range more {
		at, ok := find(x.items, i.Id)
		if !ok {
			fresh = append(fresh, i)
		} else if x.items[at] != i {
			return 0, api.ErrConflict
		}
	}
	if len(fresh) == 0 {
		return 0, api.OK
	}
	if len(x.items)+len(fresh) > api.MaxItems {
		return 0, api.ErrFull
	}
	for _, i := range fresh {
		x.put(i)
	}
	if e := plant(x.items).check(); e != api.OK {
		for _, i := range fresh {
			x.drop(i.Id)
		}
		return 0, e
	}
	return len(fresh), api.OK
}

func (x *Store) put(i api.Item) {
	at, _ := find(x.items, i.Id)
	x.items = slices.Insert(x.items, at, i)
}

func (x *Store) drop(id string) {
	if at, ok := find(x.items, id); ok {
		x.items = slices.Delete(x.items, at, at+1)
	}
}

// check validates items of which parents may be missing. Other than in Check, each error is asked for all items.
func (f forest) check() api.Errno {
	some := func(wrong func(i int) bool) bool {
		for i := range f.items {
			if wrong(i) {
				return true
			}
		}
		return false
	}
	switch {
	case f.hasCircle():
		return api.ErrLoop
	case some(f.misplaced):
		return api.ErrRule
	case some(f.tooDeep):
		return api.ErrLarge
	}
	return api.OK
}

// Items returns all complete items.
func (x *Store) Items() []api.Item { return x.pick(true) }

// Waiting returns the other items.
func (x *Store) Waiting() []api.Item { return x.pick(false) }

func (x *Store) pick(complete bool) []api.Item {
	f := plant(x.items)
	var l []api.Item
	for i, item := range x.items {
		if (x.items[f.top(i)].Parent == "") == complete {
			l = append(l, item)
		}
	}
	return l
}
