package query

import (
	"slices"

	"paperchase/api"
)

// places are runs of words of an item: for each word how many words those that begin with it have after it. They are sets of bits, because there can be millions of them.
type places []lengths

func (p places) isEmpty() bool {
	return !slices.ContainsFunc(p, func(s lengths) bool { return !s.isEmpty() })
}

func (p places) join(q places) {
	for i := range p {
		p[i].join(q[i])
	}
}

func (p places) shared(q places) places {
	r := make(places, len(p))
	for i := range p {
		r[i] = p[i].shared(q[i])
	}
	return r
}

// followers returns, for each word and for the end, where the places end that begin with this word or at most some words later: how many words after it.
func (p places) followers(most int) places {
	r := make(places, len(p)+1)
	for i, s := range p {
		if s.isEmpty() {
			continue
		}
		for between := range min(most, i) + 1 {
			r[i-between].join(s.up(between))
		}
	}
	return r
}

// pre returns the places of a FindPre of two searches.
func pre(a, b places, most int) places {
	after := b.followers(most)
	r := make(places, len(a))
	for i, s := range a {
		for n := range s.all() {
			r[i].join(after[i+n+1].up(n + 1))
		}
	}
	return r
}

// madeOf returns the places of both searches of a FindPre from which some of its places can be made.
func madeOf(some, a, b places, most int) (places, places) {
	fromA, fromB := make(places, len(a)), make(places, len(b))
	after := b.followers(most)
	ends := make(places, len(a)+1) // for each word, where places end that are made of a place of a before it and one of b
	for i, s := range a {
		for n := range s.all() {
			wanted := some[i].down(n + 1)
			if !wanted.shared(after[i+n+1]).isEmpty() {
				fromA[i].add(n)
				ends[i+n+1].join(wanted)
			}
		}
	}
	for i, s := range b {
		if s.isEmpty() {
			continue
		}
		for between := range min(most, i) + 1 {
			fromB[i].join(s.shared(ends[i-between].down(between)))
		}
	}
	return fromA, fromB
}

// located is a search by words with its places in an item.
type located struct {
	query api.Query
	at    places
	args  []located
}

// locate finds the places of a search by words.
func (d document) locate(q api.Query) located {
	l := located{query: q, at: make(places, d.long)}
	for _, arg := range q.Args {
		l.args = append(l.args, d.locate(arg))
	}
	switch q.Kind {
	case api.FindWord, api.FindPhrase:
		for _, i := range d.starts(q.Words) {
			l.at[i].add(len(q.Words) - 1)
		}
	case api.FindOr:
		for _, arg := range l.args {
			l.at.join(arg.at)
		}
	case api.FindNear, api.FindPre:
		a, b := l.args[0].at, l.args[1].at
		l.at = pre(a, b, q.Number)
		if q.Kind == api.FindNear {
			l.at.join(pre(b, a, q.Number))
		}
	}
	return l
}

// mark calls a function with the marks of some of the places: with the number of each such word at least once.
func (l located) mark(some places, note func(word int)) {
	switch l.query.Kind {
	case api.FindWord, api.FindPhrase:
		for i, s := range some {
			for n := range s.all() {
				for word := i; word <= i+n; word++ {
					note(word)
				}
			}
		}
	case api.FindOr:
		for _, arg := range l.args {
			arg.mark(some.shared(arg.at), note)
		}
	case api.FindNear, api.FindPre:
		a, b := l.args[0], l.args[1]
		fromA, fromB := madeOf(some, a.at, b.at, l.query.Number)
		if l.query.Kind == api.FindNear {
			moreB, moreA := madeOf(some, b.at, a.at, l.query.Number)
			fromA.join(moreA)
			fromB.join(moreB)
		}
		a.mark(fromA, note)
		b.mark(fromB, note)
	}
}
