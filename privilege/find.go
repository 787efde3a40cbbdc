package privilege

import (
	"strings"

	"paperchase/api"
	"paperchase/sets"
	"paperchase/shape"
)

const maxPhrase = 200 // bytes

// Find returns the places of phrases.
func Find(text string, phrases []string) ([]api.Span, api.Errno) {
	if e := shape.CheckBody(text); e != api.OK {
		return nil, e
	}
	if len(phrases) > api.MaxTerms {
		return nil, api.ErrLarge
	}
	for _, phrase := range phrases {
		if phrase == "" || len(phrase) > maxPhrase {
			return nil, api.ErrForm
		}
	}
	small := shape.Small(text)
	ends := make([]int, len(text)) // of the longest phrase that begins at a byte; 0 if none does
	for _, phrase := range phrases {
		phrase = shape.Small(phrase)
		eachPlace(small, phrase, func(at int) { ends[at] = max(ends[at], at+len(phrase)) })
	}
	var l []api.Span
	for from, to := range ends {
		if to > 0 {
			l = append(l, api.Span{From: from, To: to})
		}
	}
	return bounded(sets.Together(l))
}

// eachPlace calls a function with each place where a phrase begins.
func eachPlace(text, phrase string, note func(at int)) {
	for from := 0; ; {
		next := strings.Index(text[from:], phrase)
		if next < 0 {
			return
		}
		note(from + next)
		// Not after its end: places of one phrase can overlap.
		from += next + 1
	}
}
