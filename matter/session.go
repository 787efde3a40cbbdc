package matter

import (
	"strconv"
	"strings"

	"paperchase/api"
	"paperchase/shape"
)

// What a word of a line is: the signs of which the forms of commands consist.
const (
	siteSign   = 's' // a key
	wordSign   = 'w'
	numberSign = 'n'
	manySign   = 'm' // how many lines follow
	textSign   = 't' // the rest of the line
)

const maxBlock = 999_999 // lines

// word is a word of a line, and the number that it is.
type word struct {
	text   string
	number int
}

// command is what a line can be: a sign for each word after its name, and what it does. It returns its lines, the last one of which says that it was done.
type command struct {
	form string
	run  func(w []word) ([]string, api.Errno)
}

// Session executes the lines of a string, and returns all replies.
func Session(text string) string {
	var b strings.Builder
	if len(text) > api.MaxText {
		reply(&b, nil, api.ErrLarge)
		return b.String()
	}
	x := console{rest: strings.Split(strings.TrimSuffix(text, "\n"), "\n"), lists: map[string][]api.Deed{}}
	commands := x.commands()
	for len(x.rest) > 0 {
		line := x.rest[0]
		x.rest = x.rest[1:]
		if line == "" {
			continue
		}
		replies, e := execute(commands, line)
		reply(&b, replies, e)
	}
	return b.String()
}

// reply writes the lines of a command, or its error.
func reply(b *strings.Builder, replies []string, e api.Errno) {
	if e != api.OK {
		replies = []string{"error " + strconv.Itoa(int(e))}
	}
	for _, line := range replies {
		b.WriteString(line + "\n")
	}
}

// done returns the line which says that a command was done.
func done(numbers ...int) string {
	line := "ok"
	for _, n := range numbers {
		line += blank + strconv.Itoa(n)
	}
	return line
}

// execute executes a line.
func execute(commands map[string]command, line string) ([]string, api.Errno) {
	name, rest, _ := strings.Cut(line, blank)
	c, ok := commands[name]
	if !ok {
		return nil, api.ErrSyntax
	}
	words, ok := readWords(rest, c.form)
	if !ok {
		return nil, api.ErrSyntax
	}
	for i, w := range words {
		if c.form[i] == siteSign && !shape.Key(w.text) {
			return nil, api.ErrName
		}
	}
	return c.run(words)
}

// readWords reads what follows the name of a command; false if it has another form.
func readWords(rest, form string) ([]word, bool) {
	parts := strings.SplitN(rest, blank, len(form))
	if len(parts) < len(form) {
		return nil, false
	}
	var words []word
	for i, part := range parts {
		w, ok := readWord(part, form[i])
		if !ok {
			return nil, false
		}
		words = append(words, w)
	}
	return words, true
}

// readWord reads a word of which the sign is known.
func readWord(part string, sign byte) (word, bool) {
	// The last part can have blanks, as it is the rest of the line.
	if part == "" || sign != textSign && strings.Contains(part, blank) {
		return word{}, false
	}
	if sign != numberSign && sign != manySign {
		return word{text: part}, true
	}
	n, ok := shape.Number(part)
	if !ok || sign == manySign && (n < 0 || n > maxBlock) {
		return word{}, false
	}
	return word{text: part, number: n}, true
}
