// Package near finds documents that say nearly the same, and shows how they differ.
package near

import (
	"strings"
	"unicode/utf8"

	"paperchase/shape"
)

const lineFeed = "\n"

// Words returns the words of a string.
func Words(text string) []string {
	return strings.FieldsFunc(shape.Small(text), func(c rune) bool {
		// Whatever is no ASCII, broken UTF-8 too, consists of bytes of words.
		return c < utf8.RuneSelf && !shape.WordByte(byte(c))
	})
}

// wording returns the words of a string with one blank between.
func wording(text string) string { return strings.Join(Words(text), " ") }

// Tokens returns the tokens of a string.
func Tokens(text string) []string {
	var l []string
	for i, line := range strings.Split(text, lineFeed) {
		if i > 0 {
			l = append(l, lineFeed)
		}
		l = append(l, strings.FieldsFunc(line, func(c rune) bool { return c == ' ' })...)
	}
	return l
}

func isToken(s string) bool {
	return s == lineFeed || s != "" && !strings.ContainsAny(s, " \n")
}

// Join puts tokens together.
func Join(l []string) string {
	var b strings.Builder
	for i, token := range l {
		if i > 0 && token != lineFeed && l[i-1] != lineFeed {
			b.WriteByte(' ')
		}
		b.WriteString(token)
	}
	return b.String()
}
