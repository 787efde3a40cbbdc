package thread

import (
	"strings"

	"paperchase/api"
)

// Print writes a letter.
func Print(m api.Mail) (string, api.Errno) {
	if e := Check(m); e != api.OK {
		return "", e
	}
	var b strings.Builder
	header := func(name, value string) {
		if value != "" {
			b.WriteString(name + ": " + value + "\n")
		}
	}
	header("From", addressText(m.From))
	header("To", joined(m.To, ", ", addressText))
	header("Cc", joined(m.Cc, ", ", addressText))
	header("Date", dateText(m.At))
	header("Message-Id", idText(m.Id))
	header("References", joined(m.Refs, " ", idText))
	header("Subject", m.Subject)
	b.WriteString("\n" + m.Body)
	return bounded(b.String())
}

func joined[T any](l []T, between string, text func(T) string) string {
	var texts []string
	for _, x := range l {
		texts = append(texts, text(x))
	}
	return strings.Join(texts, between)
}

func idText(id string) string { return "<" + id + ">" }

// bounded returns a string if it is not longer than one that is read can be.
func bounded(s string) (string, api.Errno) {
	if len(s) > api.MaxText {
		return "", api.ErrLarge
	}
	return s, api.OK
}
