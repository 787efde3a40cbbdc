package query

import (
	"strings"

	"paperchase/api"
)

const (
	maxAround = 20 // words on each side of the one that is shown
	openHit   = "["
	closeHit  = "]"
)

// mark calls a function with the words that Hits returns: with the number of each one at least once.
func (d document) mark(q api.Query, note func(word int)) {
	switch q.Kind {
	case api.FindWord, api.FindPhrase, api.FindNear, api.FindPre:
		l := d.locate(q)
		l.mark(l.at, note)
	case api.FindAnd, api.FindOr:
		if !d.matches(q) {
			return
		}
		for _, arg := range q.Args {
			d.mark(arg, note)
		}
	}
}

// hits returns the words of an item, and the numbers of those that Hits returns.
func hits(q api.Query, x api.Item) ([]api.Word, []int) {
	d, words := documentOf(x)
	marked := make([]bool, len(words))
	d.mark(q, func(word int) { marked[word] = true })
	var l []int
	for i, yes := range marked {
		if yes {
			l = append(l, i)
		}
	}
	return words, l
}

// Hits returns where a search finds words of an item.
func Hits(q api.Query, x api.Item) ([]api.Span, api.Errno) {
	if e := checkBoth(q, x); e != api.OK {
		return nil, e
	}
	words, numbers := hits(q, x)
	var l []api.Span
	for _, i := range numbers {
		l = append(l, words[i].Span)
	}
	return l, api.OK
}

// Snippet shows the first place where a search is found.
func Snippet(q api.Query, x api.Item, around int) (string, api.Errno) {
	if e := checkBoth(q, x); e != api.OK {
		return "", e
	}
	if around < 0 || around > maxAround {
		return "", api.ErrArg
	}
	words, numbers := hits(q, x)
	if len(numbers) == 0 {
		return "", api.OK
	}
	i := numbers[0]
	hit := words[i]
	from := words[max(i-around, 0)].From
	to := words[min(i+around, len(words)-1)].To
	shown := x.Text[from:hit.From] + openHit + x.Text[hit.From:hit.To] + closeHit + x.Text[hit.To:to]
	return strings.ReplaceAll(shown, "\n", " "), api.OK
}
