// Package intake has items, families, duplicates and custody.
package intake

import (
	"paperchase/api"
	"paperchase/shape"
)

// CheckItem validates an item.
func CheckItem(x api.Item) api.Errno {
	switch {
	case !shape.Key(x.Id) || !shape.Key(x.Custodian):
		return api.ErrName
	case !shape.IsKind(x.Kind):
		return api.ErrKind
	case len(x.Name) > api.MaxTitle:
		return api.ErrLarge
	case !shape.Plain(x.Name):
		return api.ErrForm
	case !shape.Moment(x.At):
		return api.ErrArg
	case x.Parent != "" && !shape.Key(x.Parent):
		return api.ErrName
	case x.Parent == x.Id:
		return api.ErrLoop
	case len(x.Text) > api.MaxBody:
		return api.ErrLarge
	case !shape.Text(x.Text):
		return api.ErrForm
	}
	return api.OK
}

// Check validates items.
func Check(l []api.Item) api.Errno {
	_, e := grow(l)
	return e
}

// grow validates items, and returns their forest.
func grow(l []api.Item) (forest, api.Errno) {
	if e := checkEach(l); e != api.OK {
		return forest{}, e
	}
	f := plant(l)
	for i, x := range l {
		if x.Parent != "" && f.up[i] == nowhere {
			return forest{}, api.ErrNone
		}
	}
	if f.hasCircle() {
		return forest{}, api.ErrLoop
	}
	for i := range l {
		if f.misplaced(i) {
			return forest{}, api.ErrRule
		}
		if f.tooDeep(i) {
			return forest{}, api.ErrLarge
		}
	}
	return f, api.OK
}

func checkEach(l []api.Item) api.Errno {
	if len(l) > api.MaxItems {
		return api.ErrLarge
	}
	for i, x := range l {
		if e := CheckItem(x); e != api.OK {
			return e
		}
		if i > 0 && x.Id <= l[i-1].Id {
			return api.ErrOrder
		}
	}
	return api.OK
}

// Sum returns the sum of an item.
func Sum(x api.Item) (string, api.Errno) {
	if e := CheckItem(x); e != api.OK {
		return "", e
	}
	return sumOf(x), api.OK
}

func sumOf(x api.Item) string {
	return Digest(shape.KindWord(x.Kind) + "\n" + x.Text)
}
