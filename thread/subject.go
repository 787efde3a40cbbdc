package thread

import (
	"strings"

	"paperchase/shape"
)

const (
	digits       = "0123456789"
	maxListBytes = 20
)

// Subject returns the normal form of a subject, and how many marks were left out.
func Subject(text string) (string, int) {
	many := 0
	for {
		text = strings.TrimLeft(text, " ")
		if long := markLong(text); long > 0 {
			text = text[long:]
			many++
		} else if long := listLong(text); long > 0 {
			text = text[long:]
		} else {
			return shape.Small(squeeze(text)), many
		}
	}
}

// markLong returns how long the mark of an answer is with which a string begins; 0 if there is none.
func markLong(s string) int {
	for _, word := range []string{"re", "fwd", "fw", "aw", "wg"} {
		if len(s) < len(word) || shape.Small(s[:len(word)]) != word {
			continue
		}
		long := len(word) + countLong(s[len(word):])
		if strings.HasPrefix(s[long:], ":") {
			return long + 1
		}
	}
	return 0
}

// countLong returns how long the number in brackets is with which a string begins; 0 if there is none.
func countLong(s string) int {
	inside, ok := strings.CutPrefix(s, "[")
	rest := strings.TrimLeft(inside, digits)
	if !ok || len(rest) == len(inside) || !strings.HasPrefix(rest, "]") {
		return 0
	}
	return len(s) - len(rest) + 1
}

// listLong returns how long the mark of a list is with which a string begins; 0 if there is none.
func listLong(s string) int {
	inside, ok := strings.CutPrefix(s, "[")
	end := strings.IndexAny(inside, "[]")
	if !ok || end < 0 || end > maxListBytes || inside[end] != ']' {
		return 0
	}
	return end + 2
}

func isBlank(s string) bool { return strings.Trim(s, " ") == "" }

// squeeze leaves blanks at the ends out, and makes one of several in a row.
func squeeze(s string) string {
	return strings.Join(strings.FieldsFunc(s, func(c rune) bool { return c == ' ' }), " ")
}
