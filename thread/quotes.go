package thread

import (
	"strings"

	"paperchase/api"
	"paperchase/shape"
)

const originalLine = "-----Original Message-----"

// line is a line of a body.
type line struct {
	api.Quoted
	attribution bool
}

// readBody takes a body apart, if it is one.
func readBody(body string) ([]line, api.Errno) {
	if e := shape.CheckBody(body); e != api.OK {
		return nil, e
	}
	return linesOf(body), api.OK
}

// linesOf takes a right body apart.
func linesOf(body string) []line {
	var l []line
	for text := range strings.Lines(body) {
		l = append(l, line{Quoted: unquote(strings.TrimSuffix(text, "\n"))})
	}
	// From the first line on, so that those after each one still have the Depth of their signs.
	for i := range l {
		if !attributes(l[i].Text) {
			continue
		}
		if depth := depthAfter(l[i:]); depth > l[i].Depth {
			l[i].Depth, l[i].attribution = depth, true
		}
	}
	return l
}

// unquote leaves the signs of quotes out.
func unquote(text string) api.Quoted {
	depth := 0
	for strings.HasPrefix(text, ">") {
		text = strings.TrimPrefix(text[1:], " ")
		depth++
	}
	return api.Quoted{Depth: depth, Text: text}
}

// attributes says whether a line can announce a quote.
func attributes(text string) bool {
	for _, verb := range []string{"wrote:", "schrieb:"} {
		if who, ok := strings.CutSuffix(text, verb); ok && who != "" {
			return true
		}
	}
	return text == originalLine
}

// depthAfter returns the Depth of the line that follows the first one, where lines of blanks alone are skipped if they are not deeper; 0 if there is none.
func depthAfter(l []line) int {
	for _, x := range l[1:] {
		if x.Depth > l[0].Depth || !isBlank(x.Text) {
			return x.Depth
		}
	}
	return 0
}

// Lines takes a body apart.
func Lines(body string) ([]api.Quoted, api.Errno) {
	l, e := readBody(body)
	var quoted []api.Quoted
	for _, x := range l {
		quoted = append(quoted, x.Quoted)
	}
	return quoted, e
}

// Depth returns the greatest depth of a body.
func Depth(body string) (int, api.Errno) {
	l, e := readBody(body)
	most := 0
	for _, x := range l {
		most = max(most, x.Depth)
	}
	return most, e
}

// Own returns the own lines of a body.
func Own(body string) (string, api.Errno) {
	l, e := readBody(body)
	var b strings.Builder
	end := 0 // of the last line that has not only blanks
	for _, x := range l {
		if x.Depth > 0 {
			continue
		}
		b.WriteString(x.Text + "\n")
		if !isBlank(x.Text) {
			end = b.Len()
		}
	}
	return b.String()[:end], e
}

// Paragraphs returns the paragraphs of a body.
func Paragraphs(body string) ([]string, api.Errno) {
	if e := shape.CheckBody(body); e != api.OK {
		return nil, e
	}
	return paragraphsOf(body), api.OK
}

func paragraphsOf(body string) []string {
	var all, texts []string
	seen := map[string]bool{}
	end := func() {
		paragraph := shape.Small(squeeze(strings.Join(texts, " ")))
		if paragraph != "" && !seen[paragraph] {
			seen[paragraph] = true
			all = append(all, paragraph)
		}
		texts = nil
	}
	depth := 0
	for _, x := range linesOf(body) {
		ends := x.attribution || isBlank(x.Text)
		if ends || x.Depth != depth {
			end()
		}
		depth = x.Depth
		if !ends {
			texts = append(texts, x.Text)
		}
	}
	end()
	return all
}
