package query

import (
	"slices"

	"paperchase/api"
	"paperchase/shape"
)

const maxLinks = 3 // FindNear and FindPre one within the other

// Words that are no searches for themselves.
const (
	wordAll = "all"
	wordAnd = "and"
	wordOr  = "or"
	wordNot = "not"
)

// bounds are how many there are at least and at most.
type bounds struct{ least, most int }

func (b bounds) hold(many int) bool { return b.least <= many && many <= b.most }

// use is what a kind of searches uses, and whether they are searches by words.
type use struct {
	words, args bounds
	number      bool
	byWords     bool
}

var uses = [...]use{
	api.FindAll:    {},
	api.FindWord:   {words: bounds{1, 1}, byWords: true},
	api.FindPhrase: {words: bounds{2, api.MaxWords}, byWords: true},
	api.FindNear:   {args: bounds{2, 2}, number: true, byWords: true},
	api.FindPre:    {args: bounds{2, 2}, number: true, byWords: true},
	api.FindAnd:    {args: bounds{2, api.MaxQuery}},
	api.FindOr:     {args: bounds{2, api.MaxQuery}, byWords: true},
	api.FindNot:    {args: bounds{1, 1}},
	api.FindOwner:  {words: bounds{1, 1}},
	api.FindKind:   {number: true},
	api.FindName:   {words: bounds{1, 1}},
	api.FindFrom:   {number: true},
	api.FindUntil:  {number: true},
}

func isKind(kind int) bool { return api.FindAll <= kind && kind < len(uses) }

func isLink(kind int) bool { return kind == api.FindNear || kind == api.FindPre }

// Check validates a search.
func Check(q api.Query) api.Errno {
	if isLarge(q) {
		return api.ErrLarge
	}
	return checkEach(q, false)
}

// isLarge says whether a search is too large. It ends even for one that has itself among its Args.
func isLarge(q api.Query) bool {
	many := 0
	var tooLarge func(q api.Query, depth, links int) bool
	tooLarge = func(q api.Query, depth, links int) bool {
		many++
		if isLink(q.Kind) {
			links++
		}
		if many > api.MaxQuery || depth > api.MaxInside || links > maxLinks {
			return true
		}
		return slices.ContainsFunc(q.Args, func(arg api.Query) bool { return tooLarge(arg, depth+1, links) })
	}
	return tooLarge(q, 1, 0)
}

// checkEach validates a search and all within, which must be searches by words or need not.
func checkEach(q api.Query, byWords bool) api.Errno {
	if e := checkOne(q, byWords); e != api.OK {
		return e
	}
	for _, arg := range q.Args {
		if e := checkEach(arg, byWords || isLink(q.Kind)); e != api.OK {
			return e
		}
	}
	return api.OK
}

// checkOne validates a search without those within.
func checkOne(q api.Query, byWords bool) api.Errno {
	switch {
	case !isKind(q.Kind):
		return api.ErrKind
	case byWords && !uses[q.Kind].byWords:
		return api.ErrType
	case !hasForm(q):
		return api.ErrForm
	case slices.ContainsFunc(q.Words, func(word string) bool { return !isNamed(q.Kind, word) }):
		return api.ErrName
	case !isInRange(q):
		return api.ErrArg
	case q.Kind == api.FindKind && !shape.IsKind(q.Number):
		return api.ErrKind
	}
	return api.OK
}

// hasForm says whether a search has what its kind uses, and nothing else.
func hasForm(q api.Query) bool {
	u := uses[q.Kind]
	return u.words.hold(len(q.Words)) && u.args.hold(len(q.Args)) && (u.number || q.Number == 0)
}

// isNamed says whether a string can be one of Words of a kind of searches.
func isNamed(kind int, word string) bool {
	switch kind {
	case api.FindOwner:
		return shape.Key(word)
	case api.FindWord:
		return IsPattern(word) && word != wordAll && word != wordAnd && word != wordOr && word != wordNot
	}
	return IsPattern(word)
}

func isInRange(q api.Query) bool {
	switch q.Kind {
	case api.FindNear, api.FindPre:
		return 0 <= q.Number && q.Number <= api.MaxNear
	case api.FindFrom, api.FindUntil:
		return 0 <= q.Number && q.Number <= api.MaxDay
	}
	return true
}
