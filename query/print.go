package query

import (
	"strconv"
	"strings"

	"paperchase/api"
	"paperchase/shape"
)

// Print writes a search. MaxQuery phrases of MaxWords patterns are less than MaxText bytes, so that the string is never too large.
func Print(q api.Query) (string, api.Errno) {
	if e := Check(q); e != api.OK {
		return "", e
	}
	return write(q), api.OK
}

func write(q api.Query) string {
	number := strconv.Itoa(q.Number)
	switch q.Kind {
	case api.FindAll:
		return wordAll
	case api.FindWord:
		return q.Words[0]
	case api.FindPhrase:
		return signPhrase + strings.Join(q.Words, " ") + signPhrase
	case api.FindNear:
		return writeArgs(q, startNear+markLink+number)
	case api.FindPre:
		return writeArgs(q, startPre+markLink+number)
	case api.FindAnd:
		return writeArgs(q, wordAnd)
	case api.FindOr:
		return writeArgs(q, wordOr)
	case api.FindNot:
		return wordNot + " " + writeArg(q, 0)
	case api.FindOwner:
		return startOwner + markField + q.Words[0]
	case api.FindKind:
		return startKind + markField + shape.KindWord(q.Number)
	case api.FindName:
		return startName + markField + q.Words[0]
	case api.FindFrom:
		return startFrom + markField + number
	}
	return startUntil + markField + number
}

// writeArgs writes Args with a word between.
func writeArgs(q api.Query, between string) string {
	var l []string
	for i := range q.Args {
		l = append(l, writeArg(q, i))
	}
	return strings.Join(l, " "+between+" ")
}

func writeArg(q api.Query, i int) string {
	s := write(q.Args[i])
	if closeness(q.Args[i].Kind) < needed(q.Kind, i) {
		return signOpen + s + signClose
	}
	return s
}

// How close searches bind.
const (
	closeOr = iota
	closeAnd
	closeNot
	closeLink
	closeAll
)

func closeness(kind int) int {
	switch kind {
	case api.FindOr:
		return closeOr
	case api.FindAnd:
		return closeAnd
	case api.FindNot:
		return closeNot
	case api.FindNear, api.FindPre:
		return closeLink
	}
	return closeAll
}

// needed returns how close an element of a search must bind to be without parentheses.
func needed(kind, i int) int {
	switch {
	case kind == api.FindOr:
		return closeAnd
	case kind == api.FindAnd || kind == api.FindNot:
		return closeNot
	case i == 0:
		return closeLink
	}
	return closeAll
}
