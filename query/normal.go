package query

import (
	"cmp"
	"slices"

	"paperchase/api"
)

// Order compares two searches.
func Order(a, b api.Query) (int, api.Errno) {
	if e := Check(a); e != api.OK {
		return 0, e
	}
	if e := Check(b); e != api.OK {
		return 0, e
	}
	return order(a, b), api.OK
}

func order(a, b api.Query) int {
	return cmp.Or(
		cmp.Compare(a.Kind, b.Kind),
		cmp.Compare(a.Number, b.Number),
		slices.Compare(a.Words, b.Words),
		slices.CompareFunc(a.Args, b.Args, order),
	)
}

// Normal returns the normal form of a search.
func Normal(q api.Query) (api.Query, api.Errno) {
	if e := Check(q); e != api.OK {
		return api.Query{}, e
	}
	n := normal(q)
	if isLarge(n) {
		return api.Query{}, api.ErrLarge
	}
	return n, api.OK
}

// Opposite returns the normal form of what a search does not find.
func Opposite(q api.Query) (api.Query, api.Errno) {
	if e := Check(q); e != api.OK {
		return api.Query{}, e
	}
	return Normal(inverse(q))
}

func normal(q api.Query) api.Query {
	n := api.Query{Kind: q.Kind, Number: q.Number, Words: slices.Clone(q.Words)}
	for _, arg := range q.Args {
		n.Args = append(n.Args, normal(arg))
	}
	switch n.Kind {
	case api.FindAnd, api.FindOr:
		return gathered(n.Kind, n.Args)
	case api.FindNot:
		return negated(n.Args[0])
	case api.FindNear:
		slices.SortFunc(n.Args, order)
	}
	return n
}

// negated returns the normal form of the FindNot of a normal form. Elements need only be negated and sorted: as those of a normal form are different, do not exclude each other, and are not of its kind, the same holds for the negated ones.
func negated(q api.Query) api.Query {
	switch {
	case q.Kind == api.FindNot:
		return q.Args[0]
	case q.Kind == api.FindAnd:
		return api.Query{Kind: api.FindOr, Args: negatedEach(q.Args)}
	case q.Kind == api.FindOr:
		return api.Query{Kind: api.FindAnd, Args: negatedEach(q.Args)}
	case q.Kind == api.FindFrom && q.Number > 0:
		return api.Query{Kind: api.FindUntil, Number: q.Number - 1}
	case q.Kind == api.FindUntil && q.Number < api.MaxDay:
		return api.Query{Kind: api.FindFrom, Number: q.Number + 1}
	}
	return inverse(q)
}

func negatedEach(args []api.Query) []api.Query {
	var l []api.Query
	for _, arg := range args {
		l = append(l, negated(arg))
	}
	slices.SortFunc(l, order)
	return l
}

// gathered returns the normal form of a FindAnd or FindOr of normal forms.
func gathered(kind int, args []api.Query) api.Query {
	neutral := api.Query{Kind: api.FindAll}
	if kind == api.FindOr {
		neutral = negated(neutral)
	}
	opposite := negated(neutral)
	l := flat(kind, args, neutral)
	has := func(q api.Query) bool {
		_, ok := slices.BinarySearchFunc(l, q, order)
		return ok
	}
	if has(opposite) || slices.ContainsFunc(l, func(q api.Query) bool { return has(negated(q)) }) {
		return opposite
	}
	if len(l) == 0 {
		return neutral
	}
	return joined(kind, l)
}

// flat returns the elements of a FindAnd or FindOr and of those within that are of its kind, sorted, each once, without those that change nothing.
func flat(kind int, args []api.Query, neutral api.Query) []api.Query {
	var l []api.Query
	for _, arg := range args {
		if arg.Kind == kind {
			l = append(l, arg.Args...)
		} else if order(arg, neutral) != 0 {
			l = append(l, arg)
		}
	}
	slices.SortFunc(l, order)
	return slices.CompactFunc(l, func(a, b api.Query) bool { return order(a, b) == 0 })
}
