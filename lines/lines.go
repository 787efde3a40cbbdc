// Package lines has strings of lines, most of them with words and single blanks between them (P1.8).
package lines

import (
	"slices"
	"strings"

	"paperchase/api"
)

const blank = " "

// Write writes a line.
func Write(b *strings.Builder, words ...string) {
	b.WriteString(strings.Join(words, blank) + "\n")
}

// Words returns the words of a line; false if one of them is empty, or no line feed ends it.
func Words(line string) ([]string, bool) {
	line, ended := strings.CutSuffix(line, "\n")
	if !ended {
		return nil, false
	}
	return split(line)
}

// split returns the words of a line without its line feed; false if one of them is empty.
func split(line string) ([]string, bool) {
	words := strings.Split(line, blank)
	if slices.Contains(words, "") {
		return nil, false
	}
	return words, true
}

// Read hands the words of each line of a string to a function that takes them, or says that there cannot be such a line. With ErrSyntax it returns the number of the line.
func Read(text string, take func(words []string) bool) (int, api.Errno) {
	return Each(text, func(line string) bool {
		words, ok := split(line)
		return ok && take(words)
	})
}

// Each is Read for lines that have something else than words: they are handed over whole, without their line feeds.
func Each(text string, take func(line string) bool) (int, api.Errno) {
	if len(text) > api.MaxText {
		return 0, api.ErrLarge
	}
	at := 0
	for line := range strings.Lines(text) {
		line, ended := strings.CutSuffix(line, "\n")
		if !ended || !take(line) {
			return at, api.ErrSyntax
		}
		at++
	}
	return 0, api.OK
}
