package intake

import (
	"maps"
	"slices"

	"paperchase/api"
)

// Totals returns what custodians have.
func Totals(l []api.Item) ([]api.Total, api.Errno) {
	f, e := grow(l)
	if e != api.OK {
		return nil, e
	}
	byPerson := map[string]api.Total{}
	for i, x := range l {
		t := byPerson[x.Custodian]
		t.Custodian = x.Custodian
		t.Items++
		if f.up[i] == nowhere {
			t.Families++
		}
		t.Bytes += len(x.Text)
		byPerson[x.Custodian] = t
	}
	var all []api.Total
	for _, who := range slices.Sorted(maps.Keys(byPerson)) {
		all = append(all, byPerson[who])
	}
	return all, api.OK
}

// Differ returns the items that differ in two lists.
func Differ(a, b []api.Item) ([]api.Change, api.Errno) {
	if e := Check(a); e != api.OK {
		return nil, e
	}
	if e := Check(b); e != api.OK {
		return nil, e
	}
	var changes []api.Change
	note := func(id string, what int) { changes = append(changes, api.Change{Id: id, What: what}) }
	for len(a) > 0 || len(b) > 0 {
		switch {
		case len(b) == 0 || len(a) > 0 && a[0].Id < b[0].Id:
			note(a[0].Id, api.ChangeGone)
			a = a[1:]
		case len(a) == 0 || b[0].Id < a[0].Id:
			note(b[0].Id, api.ChangeNew)
			b = b[1:]
		default:
			if a[0].Text != b[0].Text {
				note(a[0].Id, api.ChangeText)
			} else if a[0] != b[0] {
				note(a[0].Id, api.ChangeRest)
			}
			a, b = a[1:], b[1:]
		}
	}
	return changes, api.OK
}
