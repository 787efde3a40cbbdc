package privilege

import (
	"slices"
	"unicode/utf8"

	"paperchase/api"
	"paperchase/near"
	"paperchase/query"
	"paperchase/sets"
	"paperchase/shape"
)

const (
	coverSign = '#'
	minLeak   = 4 // bytes of a word
)

// checkCovered validates a text and spans of it.
func checkCovered(text string, l []api.Span) api.Errno {
	if e := shape.CheckBody(text); e != api.OK {
		return e
	}
	return CheckSpans(l, len(text))
}

// stretched returns spans that are made longer on both sides until they divide nothing; these can touch or overlap.
func stretched(l []api.Span, divides func(at int) bool) []api.Span {
	l = slices.Clone(l)
	for i := range l {
		for divides(l[i].From) {
			l[i].From--
		}
		for divides(l[i].To) {
			l[i].To++
		}
	}
	return l
}

// wordsWhole returns spans with the whole of each word of which they have a part. No code point is divided then, as those of several bytes are parts of words.
func wordsWhole(text string, l []api.Span) []api.Span {
	return stretched(l, func(at int) bool {
		return 0 < at && at < len(text) && shape.WordByte(text[at-1]) && shape.WordByte(text[at])
	})
}

// pointsWhole returns spans with the whole of each code point of which they have a part: what they cover.
func pointsWhole(text string, l []api.Span) []api.Span {
	return stretched(l, func(at int) bool { return at < len(text) && !utf8.RuneStart(text[at]) })
}

// Widen returns spans that begin and end at the ends of words.
func Widen(text string, l []api.Span) ([]api.Span, api.Errno) {
	if e := checkCovered(text, l); e != api.OK {
		return nil, e
	}
	return sets.Together(wordsWhole(text, l)), api.OK
}

// Redact returns the string with what is covered as signs.
func Redact(text string, l []api.Span) (string, api.Errno) {
	if e := checkCovered(text, l); e != api.OK {
		return "", e
	}
	b := []byte(text)
	for _, s := range pointsWhole(text, l) {
		for i := s.From; i < s.To; i++ {
			if b[i] != ' ' && b[i] != '\n' {
				b[i] = coverSign
			}
		}
	}
	return string(b), api.OK
}

// Seen returns the words that are not covered.
func Seen(text string, l []api.Span) ([]string, api.Errno) {
	if e := checkCovered(text, l); e != api.OK {
		return nil, e
	}
	var words []string
	from := 0
	for _, s := range sets.Together(pointsWhole(text, l)) {
		words = append(words, near.Words(text[from:s.From])...)
		from = s.To
	}
	return append(words, near.Words(text[from:])...), api.OK
}

// Leaks returns the places where covered words are still seen.
func Leaks(text string, l []api.Span) ([]api.Span, api.Errno) {
	if e := checkCovered(text, l); e != api.OK {
		return nil, e
	}
	covered := pointsWhole(text, l)
	hidden := map[string]bool{}
	for _, s := range covered {
		for _, word := range near.Words(text[s.From:s.To]) {
			hidden[word] = true
		}
	}
	var leaks []api.Span
	for _, w := range query.Words(text) {
		if w.To-w.From < minLeak || !hidden[w.Word] {
			continue
		}
		touched := slices.ContainsFunc(covered, func(s api.Span) bool { return s.From < w.To && w.From < s.To })
		if !touched {
			leaks = append(leaks, w.Span)
		}
	}
	return bounded(leaks)
}
