package intake

import (
	"slices"
	"strconv"
	"strings"

	"paperchase/api"
	"paperchase/lines"
	"paperchase/shape"
)

const (
	itemWord  = "item"
	noParent  = "-"
	headWords = 8
)

// Text writes items.
func Text(l []api.Item) (string, api.Errno) {
	if e := Check(l); e != api.OK {
		return "", e
	}
	var b strings.Builder
	for _, x := range l {
		lines.Write(&b, head(x)...)
		for line := range strings.Lines(x.Text) {
			b.WriteString("|" + line)
		}
		if b.Len() > api.MaxText {
			return "", api.ErrLarge
		}
	}
	return b.String(), api.OK
}

// head returns the words of the line of an item.
func head(x api.Item) []string {
	parent := x.Parent
	if parent == "" {
		parent = noParent
	}
	many := strings.Count(x.Text, "\n")
	return []string{itemWord, x.Id, x.Custodian, shape.KindWord(x.Kind), strconv.Itoa(x.At), parent, Quote(x.Name), strconv.Itoa(many)}
}

// Read returns the items of a string.
func Read(text string) ([]api.Item, int, api.Errno) {
	if len(text) > api.MaxText {
		return nil, 0, api.ErrLarge
	}
	all := slices.Collect(strings.Lines(text))
	var l []api.Item
	for at := 0; at < len(all); {
		x, many, ok := readHead(all[at])
		if !ok {
			return nil, at, api.ErrSyntax
		}
		body, read := readBody(all[at+1:], many)
		at += 1 + read
		if read < many {
			return nil, at, api.ErrSyntax
		}
		x.Text = body
		l = append(l, x)
	}
	if e := Check(l); e != api.OK {
		return nil, 0, e
	}
	return l, 0, api.OK
}

// readHead reads the line of an item: the item without its Text, and of how many lines this is.
func readHead(line string) (api.Item, int, bool) {
	words, ok := lines.Words(line)
	if !ok || len(words) != headWords || words[0] != itemWord {
		return api.Item{}, 0, false
	}
	x := api.Item{Id: words[1], Custodian: words[2], Parent: words[5]}
	if x.Parent == noParent {
		x.Parent = ""
	}
	kind, rightKind := shape.Kind(words[3])
	at, rightAt := shape.Number(words[4])
	name, long, e := Unquote(words[6])
	many, rightMany := shape.Number(words[7])
	if !rightKind || !rightAt || e != api.OK || long < len(words[6]) || !rightMany || many < 0 {
		return api.Item{}, 0, false
	}
	x.Kind, x.At, x.Name = kind, at, name
	return x, many, true
}

// readBody reads lines of a Text, and returns how many of the first ones are right, at most as many as wanted.
func readBody(rest []string, wanted int) (string, int) {
	var b strings.Builder
	read := 0
	for _, line := range rest {
		if read == wanted || line[0] != '|' || !strings.HasSuffix(line, "\n") {
			break
		}
		b.WriteString(line[1:])
		read++
	}
	return b.String(), read
}
