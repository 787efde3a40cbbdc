package privilege

import (
	"strings"
	"unicode/utf8"

	"paperchase/api"
	"paperchase/near"
	"paperchase/sets"
)

const (
	maxTermWords = 8
	maxTermBytes = 60
)

// CheckTerms validates terms.
func CheckTerms(l []string) api.Errno {
	if len(l) > api.MaxTerms {
		return api.ErrLarge
	}
	return sets.Rising(l, isTerm, api.ErrForm)
}

func isTerm(s string) bool {
	if len(s) > maxTermBytes || !utf8.ValidString(s) {
		return false
	}
	words := near.Words(s)
	return 1 <= len(words) && len(words) <= maxTermWords && s == strings.Join(words, " ")
}

// Marks returns the terms of a string.
func Marks(terms []string, text string) ([]string, api.Errno) {
	if e := CheckTerms(terms); e != api.OK {
		return nil, e
	}
	if len(text) > api.MaxBody {
		return nil, api.ErrLarge
	}
	return marksOf(terms, text), api.OK
}

// marksOf returns the terms that at least one of some strings has, in the order of the terms.
func marksOf(terms []string, texts ...string) []string {
	var b strings.Builder
	for _, text := range texts {
		// No term has a line feed, so that none is found across two strings.
		b.WriteString(enclosed(strings.Join(near.Words(text), " ")) + "\n")
	}
	all := b.String()
	var l []string
	for _, term := range terms {
		if strings.Contains(all, enclosed(term)) {
			l = append(l, term)
		}
	}
	return l
}

// enclosed returns words with a blank before and after them, so that no part of a word counts as one.
func enclosed(words string) string { return " " + words + " " }
