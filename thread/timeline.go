package thread

import (
	"strings"

	"paperchase/api"
)

// Timeline writes a thread.
func Timeline(l []api.Mail, within, n int) (string, api.Errno) {
	groups, e := gather(l, within)
	if e != api.OK {
		return "", e
	}
	if n < 0 || n >= len(groups) {
		return "", api.ErrNone
	}
	f, e := grow(l)
	if e != api.OK {
		return "", e
	}
	var b strings.Builder
	lineOf := timelineWriter(f)
	for _, i := range groups[n] {
		b.WriteString(lineOf(l[i]))
		// Chains can be so long that all lines together would take too much time.
		if b.Len() > api.MaxText {
			break
		}
	}
	return bounded(b.String())
}

// timelineWriter returns what writes letters one after the other: the ids above each one that are missing and were not written before, and it itself.
func timelineWriter(f forest) func(m api.Mail) string {
	written := map[int]bool{}
	return func(m api.Mail) string {
		var b strings.Builder
		chain := f.chain(f.number[m.Id])
		for _, at := range chain {
			if !f.here[at] && !written[at] {
				written[at] = true
				b.WriteString("? " + f.ids[at] + "\n")
			}
		}
		date := strings.TrimSuffix(dateText(m.At), homeZone)
		indent := strings.Repeat("  ", len(chain)-1)
		b.WriteString(date + " " + indent + m.From.Mail + "\n")
		return b.String()
	}
}
