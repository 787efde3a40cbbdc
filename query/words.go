// Package query reads searches, and answers them for items and from an index.
package query

import (
	"strings"

	"paperchase/api"
	"paperchase/shape"
)

// Signs of patterns.
const (
	anyByte  = '?'
	anyBytes = "*"
)

// Words returns the words of a string.
func Words(s string) []api.Word {
	small := shape.Small(s)
	var l []api.Word
	from := 0 // of the word in which one is
	for at := range len(s) + 1 {
		if at < len(s) && shape.WordByte(s[at]) {
			continue
		}
		if from < at {
			l = append(l, api.Word{Span: api.Span{From: from, To: at}, Word: small[from:at]})
		}
		from = at + 1
	}
	return l
}

// IsPattern says whether a string is a pattern.
func IsPattern(s string) bool {
	if s == "" || len(s) > api.MaxWord || s[0] == anyByte {
		return false
	}
	start := strings.TrimSuffix(s, anyBytes)
	for i := range len(start) {
		if start[i] != anyByte && !isSmall(start[i]) {
			return false
		}
	}
	return start != ""
}

// isSmall says whether words as Words returns them consist of such bytes.
func isSmall(c byte) bool { return shape.WordByte(c) && (c < 'A' || c > 'Z') }

// Fits says whether a pattern fits a word.
func Fits(pattern, word string) bool { return IsPattern(pattern) && fits(pattern, word) }

// fits is Fits for what is known to be a pattern.
func fits(pattern, word string) bool {
	start, open := strings.CutSuffix(pattern, anyBytes)
	if len(word) < len(start) || len(word) > len(start) && !open {
		return false
	}
	for i := range len(start) {
		if start[i] != anyByte && start[i] != word[i] {
			return false
		}
	}
	return true
}

// hasFitting says whether a pattern fits some word of a string.
func hasFitting(pattern, s string) bool {
	for _, w := range Words(s) {
		if fits(pattern, w.Word) {
			return true
		}
	}
	return false
}
