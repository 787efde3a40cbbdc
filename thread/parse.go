package thread

import (
	"slices"
	"strings"

	"paperchase/api"
	"paperchase/shape"
)

const maxHeaderName = 30

// header is a line of the head of a letter, with the lines that continue it.
type header struct {
	line  int // the number of its first line
	name  string
	parts []string
}

func (h header) value() string { return strings.TrimLeft(strings.Join(h.parts, " "), " ") }

// Parse reads a letter.
func Parse(text string) (api.Mail, int, api.Errno) {
	if len(text) > api.MaxText {
		return api.Mail{}, 0, api.ErrLarge
	}
	if !shape.Text(text) {
		return api.Mail{}, 0, api.ErrForm
	}
	lines, body := cutHead(text)
	headers, read := readHeaders(lines)
	p := parser{seen: map[string]bool{}}
	for _, h := range headers {
		if !p.take(h) {
			return api.Mail{}, h.line, api.ErrSyntax
		}
	}
	// Values are asked first: they are wrong at lines before the one that has no form.
	if read < len(lines) {
		return api.Mail{}, read, api.ErrSyntax
	}
	if !p.seen["from"] || !p.seen["date"] || !p.seen["message-id"] {
		return api.Mail{}, len(lines), api.ErrNone
	}
	m := p.letter(body)
	if e := Check(m); e != api.OK {
		return api.Mail{}, 0, e
	}
	return m, 0, api.OK
}

// cutHead returns the lines before the first empty one, and what comes after it.
func cutHead(text string) ([]string, string) {
	var lines []string
	for text != "" {
		line, rest, _ := strings.Cut(text, "\n")
		text = rest
		if line == "" {
			break
		}
		lines = append(lines, line)
	}
	return lines, text
}

// readHeaders returns the headers before the first line that has no form, and the number of this line.
func readHeaders(lines []string) ([]header, int) {
	var l []header
	for at, line := range lines {
		if line[0] == ' ' && len(l) > 0 {
			last := &l[len(l)-1]
			last.parts = append(last.parts, strings.TrimLeft(line, " "))
			continue
		}
		name, value, found := strings.Cut(line, ":")
		if !found || !isHeaderName(name) {
			return l, at
		}
		l = append(l, header{line: at, name: shape.Small(name), parts: []string{value}})
	}
	return l, len(lines)
}

func isHeaderName(s string) bool {
	for _, c := range []byte(shape.Small(s)) {
		if (c < 'a' || c > 'z') && c != '-' {
			return false
		}
	}
	return s != "" && len(s) <= maxHeaderName
}

// parser is a letter of which some headers were read.
type parser struct {
	mail  api.Mail
	reply string // the id of In-Reply-To
	seen  map[string]bool
}

// take reads a header, and says whether its value has its form.
func (p *parser) take(h header) bool {
	if p.seen[h.name] {
		return true
	}
	p.seen[h.name] = true
	value, ok, e := h.value(), true, api.OK
	switch h.name {
	case "from":
		p.mail.From, e = Address(value)
	case "to":
		p.mail.To, e = Addresses(value)
	case "cc":
		p.mail.Cc, e = Addresses(value)
	case "date":
		p.mail.At, e = Date(value)
	case "message-id":
		p.mail.Id, ok = readId(value)
	case "in-reply-to":
		p.reply, ok = readId(value)
	case "references":
		p.mail.Refs, ok = readIds(value)
	case "subject":
		p.mail.Subject = squeeze(value)
	}
	return ok && e == api.OK
}

// readId reads a message id between its signs.
func readId(text string) (string, bool) {
	id, begun := strings.CutPrefix(text, "<")
	id, ended := strings.CutSuffix(id, ">")
	return id, begun && ended && shape.MessageId(id)
}

func readIds(text string) ([]string, bool) {
	var ids []string
	for _, word := range strings.Split(text, " ") {
		id, ok := readId(word)
		if !ok {
			return nil, false
		}
		ids = append(ids, id)
	}
	return ids, true
}

// letter puts together what was read.
func (p *parser) letter(body string) api.Mail {
	m := p.mail
	m.Body = body
	if p.reply != "" && !slices.Contains(m.Refs, p.reply) {
		m.Refs = append(m.Refs, p.reply)
	}
	to := map[string]bool{}
	for _, a := range m.To {
		to[a.Mail] = true
	}
	m.Cc = slices.DeleteFunc(m.Cc, func(a api.Address) bool { return to[a.Mail] })
	return m
}
