package matter

import (
	"slices"

	"paperchase/api"
	"paperchase/shape"
)

// Tip returns how many deeds a site has, and the sum of the last one.
func Tip(l []api.Deed, site string) (int, string, api.Errno) {
	if _, e := CheckDeeds(l); e != api.OK {
		return 0, "", e
	}
	if !shape.Key(site) {
		return 0, "", api.ErrName
	}
	many, sum := tip(l, site)
	return many, sum, api.OK
}

// tip is Tip for right deeds.
func tip(l []api.Deed, site string) (int, string) {
	no, sum := next(l[:endOf(l, site)], site)
	return no - 1, sum
}

// Vector returns the last stamp of each site.
func Vector(l []api.Deed) ([]api.Stamp, api.Errno) {
	if _, e := CheckDeeds(l); e != api.OK {
		return nil, e
	}
	var last []api.Stamp
	for i, d := range l {
		if i+1 == len(l) || l[i+1].Site != d.Site {
			last = append(last, d.Stamp)
		}
	}
	return last, api.OK
}

// Since returns the deeds that stamps do not cover.
func Since(l []api.Deed, seen []api.Stamp) ([]api.Deed, api.Errno) {
	if _, e := CheckDeeds(l); e != api.OK {
		return nil, e
	}
	last := ""
	known := map[string]int{} // the greatest No of a site
	for _, s := range seen {
		if e := checkSeen(l, s, last); e != api.OK {
			return nil, e
		}
		last = s.Site
		known[s.Site] = s.No
	}
	return filtered(l, func(d api.Deed) bool { return d.No > known[d.Site] }), api.OK
}

// checkSeen validates a stamp that comes after one of another site.
func checkSeen(l []api.Deed, s api.Stamp, last string) api.Errno {
	if !shape.Key(s.Site) {
		return api.ErrName
	}
	if s.Site <= last {
		return api.ErrOrder
	}
	if _, ok := placeOf(l, s); !ok {
		return api.ErrNone
	}
	return api.OK
}

// filtered returns the deeds for which a function is true.
func filtered(l []api.Deed, wanted func(d api.Deed) bool) []api.Deed {
	var some []api.Deed
	for _, d := range l {
		if wanted(d) {
			some = append(some, d)
		}
	}
	return some
}

// Merge puts two lists together.
func Merge(a, b []api.Deed) ([]api.Deed, api.Errno) {
	if _, e := CheckDeeds(a); e != api.OK {
		return nil, e
	}
	if len(b) > api.MaxDeeds {
		return nil, api.ErrLarge
	}
	b = slices.SortedFunc(slices.Values(b), func(x, y api.Deed) int { return byStamp(x.Stamp, y.Stamp) })
	all, e := union(a, b)
	if e != api.OK {
		return nil, e
	}
	if _, e := CheckDeeds(all); e != api.OK {
		return nil, e
	}
	return all, api.OK
}

// union returns the deeds of two lists, which are in the order of their stamps, each once.
func union(a, b []api.Deed) ([]api.Deed, api.Errno) {
	all := make([]api.Deed, 0, max(len(a), len(b)))
	for len(a)+len(b) > 0 {
		from := &a
		if len(a) == 0 || len(b) > 0 && byStamp(b[0].Stamp, a[0].Stamp) < 0 {
			from = &b
		}
		d := (*from)[0]
		*from = (*from)[1:]
		last := len(all) - 1
		switch {
		case last < 0 || all[last].Stamp != d.Stamp:
			all = append(all, d)
		case all[last] != d:
			return nil, api.ErrConflict
		}
	}
	return all, api.OK
}

// AsOf returns the deeds up to a moment.
func AsOf(l []api.Deed, at int) ([]api.Deed, api.Errno) {
	if _, e := CheckDeeds(l); e != api.OK {
		return nil, e
	}
	if !shape.Moment(at) {
		return nil, api.ErrArg
	}
	kept := map[string]int{} // the No of the last deed of a site that is not cut off
	for _, d := range l {
		if d.At <= at && kept[d.Site] == d.No-1 {
			kept[d.Site] = d.No
		}
	}
	for cutMissing(l, kept) {
	}
	return filtered(l, func(d api.Deed) bool { return d.No <= kept[d.Site] }), api.OK
}

// cutMissing cuts sites off before deeds that take back what is cut off, and says whether there were any.
func cutMissing(l []api.Deed, kept map[string]int) bool {
	found := false
	for _, d := range l {
		// Of a deed that takes nothing back the No is 0, as it is for no site.
		if d.No <= kept[d.Site] && d.Of.No > kept[d.Of.Site] {
			kept[d.Site] = d.No - 1
			found = true
		}
	}
	return found
}
