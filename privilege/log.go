package privilege

import (
	"cmp"
	"slices"
	"strings"

	"paperchase/api"
)

// The words of descriptions.
const (
	adviceWord  = "advice"
	requestWord = "request"
	nobodyWord  = "nobody"
	fromWord    = " from "
	toWord      = " to "
	aboutWord   = " re "
	between     = ", "
)

const maxAboutTerms = 3

// Describe writes what a letter is about.
func Describe(c api.Circle, m api.Mail) (string, api.Errno) {
	g, e := guideFor(c, m)
	if e != api.OK {
		return "", e
	}
	if g.call(m).Kind == api.CallNone {
		return "", api.ErrState
	}
	return g.describe(m), api.OK
}

// describe writes what a privileged letter is about.
func (g guide) describe(m api.Mail) string {
	what := requestWord
	if g.counsels(m.From.Mail) {
		what = adviceWord
	}
	about := what + fromWord + g.roles([]string{m.From.Mail}) + toWord + g.roles(receivers(m))
	terms := marksOf(g.terms, m.Subject, m.Body)
	if len(terms) == 0 {
		return about
	}
	return about + aboutWord + strings.Join(terms[:min(len(terms), maxAboutTerms)], between)
}

// roles writes the roles of parties, each once, in the order of their numbers.
func (g guide) roles(mails []string) string {
	has := map[int]bool{}
	for _, mail := range mails {
		p, _ := g.party(mail)
		has[p.Role] = true
	}
	var words []string
	for role := api.RoleLawyer; role <= api.RoleOther; role++ {
		if has[role] {
			words = append(words, roleWord(role))
		}
	}
	if len(words) == 0 {
		return nobodyWord
	}
	return strings.Join(words, between)
}

// receivers returns the addresses of To and Cc, sorted.
func receivers(m api.Mail) []string {
	var mails []string
	for _, a := range slices.Concat(m.To, m.Cc) {
		mails = append(mails, a.Mail)
	}
	slices.Sort(mails)
	return mails
}

// Log returns the rows of letters that are withheld.
func Log(c api.Circle, l []api.Mail, cover []api.Cover) ([]api.LogRow, api.Errno) {
	g, e := guideForAll(c, l)
	if e != api.OK {
		return nil, e
	}
	spans, e := countSpans(l, cover)
	if e != api.OK {
		return nil, e
	}
	var rows []api.LogRow
	for _, m := range inOrder(l) {
		kind := g.call(m).Kind
		many := 0
		if kind == api.CallPart {
			many = spans[m.Id]
		}
		if kind == api.CallNone || !isCount(kind, many) {
			continue
		}
		rows = append(rows, api.LogRow{
			No: len(rows) + 1, Id: m.Id, At: m.At, From: m.From.Mail, To: receivers(m), Kind: kind, About: g.describe(m), Spans: many,
		})
	}
	return rows, api.OK
}

// countSpans validates what is covered of letters, and returns of how many spans each one has some.
func countSpans(l []api.Mail, cover []api.Cover) (map[string]int, api.Errno) {
	sizes := map[string]int{}
	for _, m := range l {
		sizes[m.Id] = len(m.Body)
	}
	many := map[string]int{}
	last := ""
	for _, x := range cover {
		size, ok := sizes[x.Id]
		if !ok {
			return nil, api.ErrNone
		}
		if x.Id <= last {
			return nil, api.ErrOrder
		}
		if e := CheckSpans(x.Spans, size); e != api.OK {
			return nil, e
		}
		last = x.Id
		many[x.Id] = len(x.Spans)
	}
	return many, api.OK
}

// inOrder returns letters by At, then by Id.
func inOrder(l []api.Mail) []api.Mail {
	l = slices.Clone(l)
	slices.SortFunc(l, func(a, b api.Mail) int {
		return cmp.Or(cmp.Compare(a.At, b.At), strings.Compare(a.Id, b.Id))
	})
	return l
}
