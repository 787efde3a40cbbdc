package matter

import (
	"cmp"
	"iter"
	"maps"
	"slices"

	"paperchase/api"
	"paperchase/sets"
	"paperchase/shape"
)

// inOrder compares deeds by when they were done.
func inOrder(a, b api.Deed) int {
	return cmp.Or(cmp.Compare(a.At, b.At), byStamp(a.Stamp, b.Stamp))
}

// ledger is right deeds, and which of them count.
type ledger struct {
	deeds  []api.Deed
	counts []bool
}

// ledgerOf finds out which of right deeds count.
func ledgerOf(l []api.Deed) ledger {
	x := ledger{l, slices.Repeat([]bool{true}, len(l))}
	// A drop that is undone drops nothing, so what is undone comes first.
	x.takeBack(api.DeedUndo)
	x.takeBack(api.DeedDrop)
	return x
}

// takeBack makes what deeds of a kind take back count no more.
func (x ledger) takeBack(kind int) {
	for i, d := range x.deeds {
		if d.Kind == kind && x.counts[i] {
			at, _ := placeOf(x.deeds, d.Of) // it is there
			x.counts[at] = false
		}
	}
}

// record is the deeds on an item that count, in their order.
type record []api.Deed

// on returns the record of an item.
func (x ledger) on(id string) record {
	var r record
	for i, d := range x.deeds {
		if d.Id == id && x.counts[i] {
			r = append(r, d)
		}
	}
	slices.SortFunc(r, inOrder)
	return r
}

// records returns those of all items that have one.
func (x ledger) records() map[string]record {
	all := map[string]record{}
	for i, d := range x.deeds {
		if d.Id != "" && x.counts[i] {
			all[d.Id] = append(all[d.Id], d)
		}
	}
	for _, r := range all {
		slices.SortFunc(r, inOrder)
	}
	return all
}

// of goes through the deeds of a kind.
func (r record) of(kind int) iter.Seq[api.Deed] {
	return func(yield func(d api.Deed) bool) {
		for _, d := range r {
			if d.Kind == kind && !yield(d) {
				return
			}
		}
	}
}

// value returns that of a field; empty if there is none.
func (r record) value(field string) string {
	value := ""
	for d := range r.of(api.DeedCode) {
		if d.Field == field {
			value = d.Value
		}
	}
	return value
}

func (r record) fields() []api.Coded {
	last := map[string]api.Deed{}
	for d := range r.of(api.DeedCode) {
		last[d.Field] = d
	}
	var l []api.Coded
	for _, field := range slices.Sorted(maps.Keys(last)) {
		if d := last[field]; d.Value != "" {
			l = append(l, api.Coded{Field: field, Value: d.Value, Stamp: d.Stamp})
		}
	}
	return l
}

func (r record) labels() []string {
	var l []string
	for d := range r.of(api.DeedLabel) {
		l = append(l, d.Value)
	}
	slices.Sort(l)
	return slices.Compact(l)
}

func (r record) spans() []api.Span {
	var l []api.Span
	for d := range r.of(api.DeedCover) {
		l = append(l, d.Span)
	}
	slices.SortFunc(l, func(a, b api.Span) int { return cmp.Compare(a.From, b.From) })
	return sets.Together(l)
}

func (r record) notes() []string {
	var l []string
	for d := range r.of(api.DeedNote) {
		l = append(l, d.Value)
	}
	return l
}

// recordOf returns the record of an item.
func recordOf(l []api.Deed, id string) (record, api.Errno) {
	if _, e := CheckDeeds(l); e != api.OK {
		return nil, e
	}
	if !shape.Key(id) {
		return nil, api.ErrName
	}
	return ledgerOf(l).on(id), api.OK
}

// Value returns the value of a field of an item.
func Value(l []api.Deed, id, field string) (string, api.Errno) {
	r, e := recordOf(l, id)
	if e != api.OK {
		return "", e
	}
	if !shape.Key(field) {
		return "", api.ErrName
	}
	return r.value(field), api.OK
}

// Fields returns all fields of an item that have a value.
func Fields(l []api.Deed, id string) ([]api.Coded, api.Errno) {
	r, e := recordOf(l, id)
	return r.fields(), e
}

// Spans returns what is covered of an item.
func Spans(l []api.Deed, id string) ([]api.Span, api.Errno) {
	r, e := recordOf(l, id)
	return r.spans(), e
}

// Labels returns the labels of an item.
func Labels(l []api.Deed, id string) ([]string, api.Errno) {
	r, e := recordOf(l, id)
	return r.labels(), e
}

// Notes returns the notes of an item.
func Notes(l []api.Deed, id string) ([]string, api.Errno) {
	r, e := recordOf(l, id)
	return r.notes(), e
}
