// Package matter puts together what several sites decided.
package matter

import (
	"cmp"
	"slices"
	"strconv"
	"strings"

	"paperchase/api"
	"paperchase/intake"
	"paperchase/shape"
)

const (
	blank  = " "
	noName = "-"
)

// byStamp compares stamps.
func byStamp(a, b api.Stamp) int {
	return cmp.Or(strings.Compare(a.Site, b.Site), cmp.Compare(a.No, b.No))
}

// placeOf returns where a stamp is in deeds, or would be, which are in the order of their stamps.
func placeOf(l []api.Deed, s api.Stamp) (int, bool) {
	return slices.BinarySearchFunc(l, s, func(d api.Deed, s api.Stamp) int { return byStamp(d.Stamp, s) })
}

// endOf returns the number of the first of right deeds after those of a site.
func endOf(l []api.Deed, site string) int {
	end, _ := placeOf(l, api.Stamp{Site: site, No: api.MaxDeeds + 1})
	return end
}

// next returns the No of the next deed of a site after the first ones of some deeds, and the Sum that it goes on from.
func next(first []api.Deed, site string) (int, string) {
	last := len(first) - 1
	if last >= 0 && first[last].Site == site {
		return first[last].No + 1, first[last].Sum
	}
	return 1, ""
}

// wordsOf returns the words of a deed, but for its Sum, after a first one.
func wordsOf(first, kind string, d api.Deed) []string {
	return []string{
		first, d.Site, strconv.Itoa(d.No), strconv.Itoa(d.At), kind, named(d.Id), named(d.Field), intake.Quote(d.Value),
		strconv.Itoa(d.Span.From), strconv.Itoa(d.Span.To), named(d.Of.Site), strconv.Itoa(d.Of.No),
	}
}

// named returns the word for a name that can be empty.
func named(s string) string {
	if s == "" {
		return noName
	}
	return s
}

// sumOf returns the Sum of a deed after that of the deed before.
func sumOf(before string, d api.Deed) string {
	return intake.Digest(strings.Join(wordsOf(before, strconv.Itoa(d.Kind), d), blank))
}

// CheckDeeds validates deeds.
func CheckDeeds(l []api.Deed) (int, api.Errno) {
	if len(l) > api.MaxDeeds {
		return 0, api.ErrLarge
	}
	for i := range l {
		if e := checkDeed(l[:i], l[i]); e != api.OK {
			return i, e
		}
	}
	for i, d := range l {
		if e := checkOf(l, d); e != api.OK {
			return i, e
		}
	}
	return 0, api.OK
}

// checkDeed validates a deed after others, but for what it takes back.
func checkDeed(others []api.Deed, d api.Deed) api.Errno {
	no, sum := next(others, d.Site)
	switch {
	case !shape.Key(d.Site):
		return api.ErrName
	case len(others) > 0 && byStamp(others[len(others)-1].Stamp, d.Stamp) >= 0:
		return api.ErrOrder
	case d.No != no || !shape.Moment(d.At):
		return api.ErrArg
	}
	if e := checkSaid(d); e != api.OK {
		return e
	}
	if d.Sum != sumOf(sum, d) {
		return api.ErrSum
	}
	return api.OK
}

// checkOf validates what a deed takes back.
func checkOf(l []api.Deed, d api.Deed) api.Errno {
	k, _ := kindOf(d.Kind)
	if k.of == nil {
		return api.OK
	}
	at, ok := placeOf(l, d.Of)
	switch {
	case !ok:
		return api.ErrNone
	case !k.of(l[at].Kind):
		return api.ErrRule
	case d.Kind == api.DeedUndo && (d.Of.Site != d.Site || d.Of.No >= d.No):
		return api.ErrRule
	}
	return api.OK
}

// checkNew asks for what Add and Undo have in common.
func checkNew(l []api.Deed, site string, at int) api.Errno {
	switch {
	case !shape.Key(site):
		return api.ErrName
	case len(l) == api.MaxDeeds:
		return api.ErrFull
	case !shape.Moment(at):
		return api.ErrArg
	}
	return api.OK
}

// with returns right deeds with another one of its site, after all others of it.
func with(l []api.Deed, d api.Deed) []api.Deed {
	end := endOf(l, d.Site)
	no, sum := next(l[:end], d.Site)
	d.No = no
	d.Sum = sumOf(sum, d)
	return slices.Concat(l[:end], []api.Deed{d}, l[end:])
}

// Add adds a deed of a site.
func Add(l []api.Deed, site string, at, kind int, id, field, value string, span api.Span) ([]api.Deed, api.Errno) {
	if _, e := CheckDeeds(l); e != api.OK {
		return nil, e
	}
	return add(l, api.Deed{Stamp: api.Stamp{Site: site}, At: at, Kind: kind, Id: id, Field: field, Value: value, Span: span})
}

// add is Add for right deeds.
func add(l []api.Deed, d api.Deed) ([]api.Deed, api.Errno) {
	if e := checkNew(l, d.Site, d.At); e != api.OK {
		return nil, e
	}
	if d.Kind == api.DeedDrop || d.Kind == api.DeedUndo {
		return nil, api.ErrKind
	}
	if e := checkSaid(d); e != api.OK {
		return nil, e
	}
	return with(l, d), api.OK
}

// Undo drops or undoes a deed.
func Undo(l []api.Deed, site string, at int, of api.Stamp) ([]api.Deed, api.Errno) {
	if _, e := CheckDeeds(l); e != api.OK {
		return nil, e
	}
	return undo(l, site, at, of)
}

// undo is Undo for right deeds.
func undo(l []api.Deed, site string, at int, of api.Stamp) ([]api.Deed, api.Errno) {
	if e := checkNew(l, site, at); e != api.OK {
		return nil, e
	}
	place, ok := placeOf(l, of)
	if !ok {
		return nil, api.ErrNone
	}
	d := api.Deed{Stamp: api.Stamp{Site: site}, At: at, Of: of}
	switch {
	case isDropped(l[place].Kind):
		d.Kind = api.DeedDrop
	case isUndone(l[place].Kind) && of.Site == site:
		d.Kind = api.DeedUndo
	default:
		return nil, api.ErrRule
	}
	if !ledgerOf(l).counts[place] {
		return nil, api.ErrState
	}
	return with(l, d), api.OK
}
