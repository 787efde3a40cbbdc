package privilege

import (
	"slices"
	"strings"

	"paperchase/api"
	"paperchase/sets"
	"paperchase/thread"
)

// letter is a letter of a conversation.
type letter struct {
	api.Mail
	call   api.Called
	waived bool
}

// isPrivileged says whether a letter is privileged, as a whole or in part.
func (x letter) isPrivileged() bool { return x.call.Kind != api.CallNone }

// isAway says whether what a letter says is known to others.
func (x letter) isAway() bool {
	return x.call.Why == api.WhyPublic || x.call.Why == api.WhyOutside
}

// conversations validates what it is given, and returns the letters of each thread.
func conversations(c api.Circle, l []api.Mail, within int) ([][]letter, api.Errno) {
	calls, e := Calls(c, l)
	if e != api.OK {
		return nil, e
	}
	threads, e := thread.Threads(l, within)
	if e != api.OK {
		return nil, e
	}
	letters := map[string]letter{} // by Id
	for i, m := range l {
		letters[m.Id] = letter{Mail: m, call: calls[i]}
	}
	var all [][]letter
	for _, t := range threads {
		var some []letter
		for _, id := range t.Ids {
			some = append(some, letters[id])
		}
		waive(some)
		all = append(all, some)
	}
	return all, api.OK
}

// waive finds the letters of a conversation whose words were given away. Their paragraphs are read only once, as thread.Covers would read those of both letters anew for each pair.
func waive(l []letter) {
	n := sets.Numberer{}
	var said, away [][]int
	for _, x := range l {
		paragraphs, _ := thread.Paragraphs(x.Body)
		numbers := n.Numbers(paragraphs)
		said = append(said, numbers)
		if x.isAway() {
			away = append(away, numbers)
		}
	}
	for i, x := range l {
		l[i].waived = x.isPrivileged() && slices.ContainsFunc(away, func(other []int) bool {
			return sets.Shared(said[i], other) == len(said[i])
		})
	}
}

// Waived returns the letters whose words were given away.
func Waived(c api.Circle, l []api.Mail, within int) ([]string, api.Errno) {
	all, e := conversations(c, l, within)
	if e != api.OK {
		return nil, e
	}
	var ids []string
	for _, x := range slices.Concat(all...) {
		if x.waived {
			ids = append(ids, x.Id)
		}
	}
	slices.Sort(ids)
	return ids, api.OK
}

// Quoted returns what must be covered in a letter because it quotes another one.
func Quoted(c api.Circle, l []api.Mail, within int, id string) ([]api.Span, api.Errno) {
	all, e := conversations(c, l, within)
	if e != api.OK {
		return nil, e
	}
	for _, some := range all {
		i := slices.IndexFunc(some, func(x letter) bool { return x.Id == id })
		if i >= 0 {
			return bounded(quotes(some[i].Body, secrets(some)))
		}
	}
	return nil, api.ErrNone
}

// bare returns a line without blanks at its ends.
func bare(line string) string { return strings.Trim(line, " ") }

// secrets returns the own lines of the letters of a conversation that are withheld as a whole.
func secrets(l []letter) map[string]bool {
	lines := map[string]bool{}
	for _, x := range l {
		if x.call.Kind != api.CallFull || x.waived {
			continue
		}
		own, _ := thread.Own(x.Body)
		for _, line := range strings.Split(own, "\n") {
			lines[bare(line)] = true
		}
	}
	delete(lines, "")
	return lines
}

// quotes returns the places of the lines of a body that quote secrets.
func quotes(body string, secrets map[string]bool) []api.Span {
	quoted, _ := thread.Lines(body)
	var l []api.Span
	from := 0
	for i, line := range strings.Split(body, "\n")[:len(quoted)] {
		to := from + len(line)
		if quoted[i].Depth > 0 && secrets[bare(quoted[i].Text)] {
			l = append(l, api.Span{From: from, To: to})
		}
		from = to + 1
	}
	return l
}
