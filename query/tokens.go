package query

import (
	"strings"

	"paperchase/api"
	"paperchase/shape"
)

// Kinds of tokens.
const (
	tokenBad     = iota // what is none
	tokenEnd            // of the string
	tokenElement        // a search
	tokenOpen
	tokenClose
	tokenNot
	tokenLink // a FindNear or FindPre without its Args
	tokenAnd
	tokenOr
)

// How searches are written.
const (
	signOpen   = "("
	signClose  = ")"
	signPhrase = `"`
	spaces     = " \n"
	pieceEnds  = spaces + signOpen + signClose + signPhrase

	markLink  = "/"
	startNear = "w"
	startPre  = "pre"

	markField  = ":"
	startOwner = "owner"
	startKind  = "kind"
	startName  = "name"
	startFrom  = "from"
	startUntil = "until"

	maxDigits = 6
)

// token is a part of the string of a search, from the byte with the number at on.
type token struct {
	what, at int
	query    api.Query
}

// scan returns the first token from a byte on, and where it ends.
func scan(text string, at int) (token, int) {
	rest := strings.TrimLeft(text[at:], spaces)
	at = len(text) - len(rest)
	t, long := readToken(rest)
	t.at = at
	return t, at + long
}

// readToken reads the token with which a string begins, and returns its length.
func readToken(s string) (token, int) {
	switch {
	case s == "":
		return token{what: tokenEnd}, 0
	case strings.HasPrefix(s, signOpen):
		return token{what: tokenOpen}, len(signOpen)
	case strings.HasPrefix(s, signClose):
		return token{what: tokenClose}, len(signClose)
	case strings.HasPrefix(s, signPhrase):
		phrase, _, closed := strings.Cut(s[len(signPhrase):], signPhrase)
		if !closed {
			return token{what: tokenBad}, len(s)
		}
		return readPhrase(phrase), len(signPhrase + phrase + signPhrase)
	}
	piece := s
	if end := strings.IndexAny(s, pieceEnds); end >= 0 {
		piece = s[:end]
	}
	return readPiece(shape.Small(piece)), len(piece)
}

func element(q api.Query) token { return token{what: tokenElement, query: q} }

func readPhrase(s string) token {
	patterns := strings.FieldsFunc(shape.Small(s), func(c rune) bool { return c == ' ' })
	for _, p := range patterns {
		if !IsPattern(p) {
			return token{what: tokenBad}
		}
	}
	switch len(patterns) {
	case 0:
		return token{what: tokenBad}
	case 1:
		return element(api.Query{Kind: api.FindWord, Words: patterns})
	}
	return element(api.Query{Kind: api.FindPhrase, Words: patterns})
}

func readPiece(s string) token {
	switch s {
	case wordAll:
		return element(api.Query{Kind: api.FindAll})
	case wordAnd:
		return token{what: tokenAnd}
	case wordOr:
		return token{what: tokenOr}
	case wordNot:
		return token{what: tokenNot}
	}
	if start, number, ok := strings.Cut(s, markLink); ok {
		return readLink(start, number)
	}
	if start, value, ok := strings.Cut(s, markField); ok {
		return readField(start, value)
	}
	if IsPattern(s) {
		return element(api.Query{Kind: api.FindWord, Words: []string{s}})
	}
	return token{what: tokenBad}
}

func readLink(start, number string) token {
	n, ok := readNumber(number)
	switch {
	case ok && start == startNear:
		return token{what: tokenLink, query: api.Query{Kind: api.FindNear, Number: n}}
	case ok && start == startPre:
		return token{what: tokenLink, query: api.Query{Kind: api.FindPre, Number: n}}
	}
	return token{what: tokenBad}
}

func readField(start, value string) token {
	day, isNumber := readNumber(value)
	kind, isKind := shape.Kind(value)
	switch {
	case start == startOwner && shape.Key(value):
		return element(api.Query{Kind: api.FindOwner, Words: []string{value}})
	case start == startKind && isKind:
		return element(api.Query{Kind: api.FindKind, Number: kind})
	case start == startName && IsPattern(value):
		return element(api.Query{Kind: api.FindName, Words: []string{value}})
	case start == startFrom && isNumber:
		return element(api.Query{Kind: api.FindFrom, Number: day})
	case start == startUntil && isNumber:
		return element(api.Query{Kind: api.FindUntil, Number: day})
	}
	return token{what: tokenBad}
}

func readNumber(s string) (int, bool) {
	n, ok := shape.Number(s)
	if !ok || n < 0 || len(s) > maxDigits {
		return 0, false
	}
	return n, true
}
