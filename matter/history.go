package matter

import (
	"maps"
	"slices"

	"paperchase/api"
	"paperchase/shape"
)

// stampsOf returns the stamps of deeds.
func stampsOf(l []api.Deed) []api.Stamp {
	var stamps []api.Stamp
	for _, d := range l {
		stamps = append(stamps, d.Stamp)
	}
	return stamps
}

// History returns the stamps of all deeds about an item.
func History(l []api.Deed, id string) ([]api.Stamp, api.Errno) {
	if _, e := CheckDeeds(l); e != api.OK {
		return nil, e
	}
	if !shape.Key(id) {
		return nil, api.ErrName
	}
	about := map[api.Stamp]bool{}
	for more := true; more; {
		before := len(about)
		for _, d := range l {
			if d.Id == id || about[d.Of] {
				about[d.Stamp] = true
			}
		}
		more = len(about) > before
	}
	all := filtered(l, func(d api.Deed) bool { return about[d.Stamp] })
	slices.SortFunc(all, inOrder)
	return stampsOf(all), api.OK
}

// Rivals returns what sites decided differently.
func Rivals(l []api.Deed, within int) ([]api.Rival, api.Errno) {
	if _, e := CheckDeeds(l); e != api.OK {
		return nil, e
	}
	if within < 0 || within > api.End {
		return nil, api.ErrArg
	}
	return rivals(l, within), api.OK
}

// rivals is Rivals for right deeds.
func rivals(l []api.Deed, within int) []api.Rival {
	records := ledgerOf(l).records()
	var all []api.Rival
	for _, id := range slices.Sorted(maps.Keys(records)) {
		codes := map[string][]api.Deed{} // by field
		for d := range records[id].of(api.DeedCode) {
			codes[d.Field] = append(codes[d.Field], d)
		}
		for _, field := range slices.Sorted(maps.Keys(codes)) {
			last := lastOfSites(codes[field])
			if differ(last) && last[len(last)-1].At-last[0].At <= within {
				all = append(all, api.Rival{Id: id, Field: field, Stamps: stampsOf(last)})
			}
		}
	}
	return all
}

// lastOfSites returns the last one of each site of deeds that are in their order.
func lastOfSites(l []api.Deed) []api.Deed {
	seen := map[string]bool{}
	var last []api.Deed
	for _, d := range slices.Backward(l) {
		if !seen[d.Site] {
			seen[d.Site] = true
			last = append(last, d)
		}
	}
	slices.Reverse(last)
	return last
}

// differ says whether deeds do not all have the same Value.
func differ(l []api.Deed) bool {
	return slices.ContainsFunc(l, func(d api.Deed) bool { return d.Value != l[0].Value })
}
