package hold

import (
	"strconv"
	"strings"

	"paperchase/api"
	"paperchase/intake"
	"paperchase/lines"
	"paperchase/shape"
)

const (
	holdWord  = "hold"
	ofWord    = "of"
	kindWord  = "kind"
	headWords = 7
	restWords = 2
)

// Text writes holds.
func Text(l []api.Hold) (string, api.Errno) {
	if e := Check(l); e != api.OK {
		return "", e
	}
	var b strings.Builder
	for _, h := range l {
		lines.Write(&b, holdWord, h.Key, strconv.Itoa(h.At), strconv.Itoa(h.Released), strconv.Itoa(h.Window.From), strconv.Itoa(h.Window.To), intake.Quote(h.Query))
		for _, who := range h.Custodians {
			lines.Write(&b, ofWord, who)
		}
		for _, kind := range h.Kinds {
			lines.Write(&b, kindWord, shape.KindWord(kind))
		}
		if b.Len() > api.MaxText {
			return "", api.ErrLarge
		}
	}
	return b.String(), api.OK
}

// Read returns the holds of a string.
func Read(text string) ([]api.Hold, int, api.Errno) {
	var l []api.Hold
	at, e := lines.Read(text, func(words []string) bool {
		var ok bool
		l, ok = readLine(l, words)
		return ok
	})
	if e == api.OK {
		e = Check(l)
	}
	if e != api.OK {
		return nil, at, e
	}
	return l, 0, api.OK
}

// readLine returns holds with what the words of the next line add; false if there cannot be such a line.
func readLine(l []api.Hold, words []string) ([]api.Hold, bool) {
	if words[0] == holdWord {
		h, ok := readHead(words)
		return append(l, h), ok
	}
	if len(words) != restWords || len(l) == 0 {
		return nil, false
	}
	h := &l[len(l)-1]
	switch {
	case words[0] == ofWord && len(h.Kinds) == 0:
		h.Custodians = append(h.Custodians, words[1])
		return l, true
	case words[0] == kindWord:
		kind, ok := shape.Kind(words[1])
		h.Kinds = append(h.Kinds, kind)
		return l, ok
	}
	return nil, false
}

// readHead reads the words of the line of a hold.
func readHead(words []string) (api.Hold, bool) {
	if len(words) != headWords {
		return api.Hold{}, false
	}
	var numbers []int
	for _, word := range words[2:6] {
		n, ok := shape.Number(word)
		if !ok {
			return api.Hold{}, false
		}
		numbers = append(numbers, n)
	}
	search, long, e := intake.Unquote(words[6])
	if e != api.OK || long < len(words[6]) {
		return api.Hold{}, false
	}
	window := api.Window{From: numbers[2], To: numbers[3]}
	return api.Hold{Key: words[1], At: numbers[0], Released: numbers[1], Window: window, Query: search}, true
}
