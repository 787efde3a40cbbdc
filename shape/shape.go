// Package shape has the forms of strings and numbers that several chapters share: those of the rules for all chapters (Z10, Z11), the words of kinds of items (P1.2), addresses (P2.1), message ids and bodies (P2.4), the bytes of words (P3.1), and the lines of pages and the cells of rows (P8.5, P8.9).
package shape

import (
	"strconv"
	"strings"
	"unicode/utf8"

	"paperchase/api"
)

const (
	maxDigits    = 9
	maxAddress   = 80
	maxLocal     = 40
	maxLabel     = 30
	maxMessageId = 80
)

// Key says whether a string is a key.
func Key(s string) bool {
	return madeOf(s, "-_", api.MaxName) && small(s[0])
}

func small(c byte) bool { return 'a' <= c && c <= 'z' }

func digit(c byte) bool { return '0' <= c && c <= '9' }

// WordByte says whether words consist of such bytes.
func WordByte(c byte) bool {
	return small(c) || 'A' <= c && c <= 'Z' || digit(c) || c >= utf8.RuneSelf
}

// Plain says whether a string is plain.
func Plain(s string) bool {
	blanks := strings.HasPrefix(s, " ") || strings.HasSuffix(s, " ") || strings.Contains(s, "  ")
	return !blanks && Line(s)
}

// Text says whether a string is a text.
func Text(s string) bool {
	return (s == "" || strings.HasSuffix(s, "\n")) && Printed(s)
}

// CheckBody validates a text that is not longer than the Text of an item.
func CheckBody(s string) api.Errno {
	if len(s) > api.MaxBody {
		return api.ErrLarge
	}
	if !Text(s) {
		return api.ErrForm
	}
	return api.OK
}

// Line says whether a string is UTF-8 without control bytes.
func Line(s string) bool { return !strings.Contains(s, "\n") && Printed(s) }

// Printed says whether a string is UTF-8 without control bytes but line feeds.
func Printed(s string) bool {
	for i := range len(s) {
		if s[i] < 32 && s[i] != '\n' || s[i] == 127 {
			return false
		}
	}
	return utf8.ValidString(s)
}

// Small returns a string with small letters for the capitals A to Z, and nothing else changed.
func Small(s string) string {
	b := []byte(s)
	for i, c := range b {
		if 'A' <= c && c <= 'Z' {
			b[i] = c - 'A' + 'a'
		}
	}
	return string(b)
}

// Address says whether a string is an address of mail.
func Address(s string) bool {
	local, domain, _ := strings.Cut(s, "@")
	labels := strings.Split(domain, ".")
	if len(s) > maxAddress || len(labels) < 2 || !madeOf(local, ".-_+", maxLocal) {
		return false
	}
	for _, label := range labels {
		if !madeOf(label, "-", maxLabel) {
			return false
		}
	}
	return true
}

// madeOf says whether a string has at least one byte and at most some, all of them small letters, digits or signs.
func madeOf(s, signs string, most int) bool {
	for i := range len(s) {
		if !small(s[i]) && !digit(s[i]) && strings.IndexByte(signs, s[i]) < 0 {
			return false
		}
	}
	return s != "" && len(s) <= most
}

// MessageId says whether a string is the id of a letter.
func MessageId(s string) bool {
	for i := range len(s) {
		if s[i] < 33 || s[i] > 126 || s[i] == '<' || s[i] == '>' {
			return false
		}
	}
	return s != "" && len(s) <= maxMessageId
}

// Moment says whether a number is a moment.
func Moment(at int) bool { return 0 <= at && at < api.End }

// Window says whether a window is within all moments, and does not end before it begins.
func Window(w api.Window) bool { return 0 <= w.From && w.From <= w.To && w.To <= api.End }

// Number reads a number as it is written in strings, with at most 9 digits.
func Number(s string) (int, bool) {
	n, err := strconv.Atoi(s)
	// Atoi also takes a plus sign, zeros in front and -0, which are written otherwise.
	if err != nil || strconv.Itoa(n) != s || len(strings.TrimPrefix(s, "-")) > maxDigits {
		return 0, false
	}
	return n, true
}

// KindWord returns the word of a kind of items; empty if there is no such kind.
func KindWord(kind int) string {
	switch kind {
	case api.ItemMail:
		return "mail"
	case api.ItemFile:
		return "file"
	case api.ItemBox:
		return "box"
	case api.ItemNote:
		return "note"
	}
	return ""
}

// IsKind says whether there is such a kind of items.
func IsKind(kind int) bool { return KindWord(kind) != "" }

// Kind returns the kind of items with a word.
func Kind(word string) (int, bool) {
	return Named(word, KindWord, api.ItemMail, api.ItemFile, api.ItemBox, api.ItemNote)
}

// Named returns which of some numbers has a word.
func Named(word string, wordOf func(n int) string, numbers ...int) (int, bool) {
	for _, n := range numbers {
		if wordOf(n) == word {
			return n, true
		}
	}
	return 0, false
}
