package matter

import (
	"strings"

	"paperchase/api"
	"paperchase/intake"
	"paperchase/lines"
	"paperchase/shape"
)

const (
	deedWord  = "deed"
	deedWords = 13
)

// PrintDeeds writes deeds.
func PrintDeeds(l []api.Deed) (string, api.Errno) {
	if _, e := CheckDeeds(l); e != api.OK {
		return "", e
	}
	var b strings.Builder
	for _, d := range l {
		lines.Write(&b, append(wordsOf(deedWord, kindWord(d.Kind), d), d.Sum)...)
		if b.Len() > api.MaxText {
			return "", api.ErrLarge
		}
	}
	return b.String(), api.OK
}

// ParseDeeds reads deeds.
func ParseDeeds(text string) ([]api.Deed, int, api.Errno) {
	var l []api.Deed
	at, e := lines.Read(text, func(words []string) bool {
		d, ok := readDeed(words)
		l = append(l, d)
		return ok
	})
	if e == api.OK {
		_, e = CheckDeeds(l)
	}
	if e != api.OK {
		return nil, at, e
	}
	return l, 0, api.OK
}

// readDeed reads the words of a deed; what they say can be wrong.
func readDeed(words []string) (api.Deed, bool) {
	if len(words) != deedWords || words[0] != deedWord {
		return api.Deed{}, false
	}
	numbers, ok := readNumbers(words[2], words[3], words[8], words[9], words[11])
	kind, rightKind := shape.Named(words[4], kindWord, api.DeedCode, api.DeedLabel, api.DeedDrop, api.DeedCover, api.DeedNote, api.DeedUndo)
	value, long, e := intake.Unquote(words[7])
	if !ok || !rightKind || e != api.OK || long < len(words[7]) {
		return api.Deed{}, false
	}
	return api.Deed{
		Stamp: api.Stamp{Site: words[1], No: numbers[0]},
		At:    numbers[1],
		Kind:  kind,
		Id:    unnamed(words[5]),
		Field: unnamed(words[6]),
		Value: value,
		Span:  api.Span{From: numbers[2], To: numbers[3]},
		Of:    api.Stamp{Site: unnamed(words[10]), No: numbers[4]},
		Sum:   words[12],
	}, true
}

// readNumbers reads words that are all numbers.
func readNumbers(words ...string) ([]int, bool) {
	var l []int
	for _, word := range words {
		n, ok := shape.Number(word)
		if !ok {
			return nil, false
		}
		l = append(l, n)
	}
	return l, true
}

// unnamed returns the name for which there is a word.
func unnamed(word string) string {
	if word == noName {
		return ""
	}
	return word
}
