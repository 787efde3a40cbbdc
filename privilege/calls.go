package privilege

import (
	"slices"

	"paperchase/api"
	"paperchase/sets"
	"paperchase/shape"
	"paperchase/thread"
)

// guide is what a right circle says.
type guide struct {
	book
	terms, public []string
}

// guideOf validates a circle, and returns its guide.
func guideOf(c api.Circle) (guide, api.Errno) {
	b, e := bookOf(c.People, c.Domains)
	if e != api.OK {
		return guide{}, e
	}
	if e := CheckTerms(c.Terms); e != api.OK {
		return guide{}, e
	}
	if len(c.Public) > api.MaxPeople {
		return guide{}, api.ErrLarge
	}
	if e := sets.Rising(c.Public, shape.Address, api.ErrForm); e != api.OK {
		return guide{}, e
	}
	return guide{b, c.Terms, c.Public}, api.OK
}

// guideFor validates a circle and a letter.
func guideFor(c api.Circle, m api.Mail) (guide, api.Errno) {
	g, e := guideOf(c)
	if e != api.OK {
		return guide{}, e
	}
	return g, thread.Check(m)
}

// guideForAll validates a circle and letters.
func guideForAll(c api.Circle, l []api.Mail) (guide, api.Errno) {
	g, e := guideOf(c)
	if e != api.OK {
		return guide{}, e
	}
	return g, thread.CheckMails(l)
}

// isPublic says whether anybody reads what an address gets.
func (g guide) isPublic(mail string) bool { return sets.Has(g.public, mail) }

// isOutside says whether an address is not on our side.
func (g guide) isOutside(mail string) bool {
	p, ok := g.party(mail)
	return !ok || p.Side != api.SideOurs
}

// counsels says whether an address is that of a lawyer, or of a helper of one.
func (g guide) counsels(mail string) bool {
	p, _ := g.party(mail)
	return p.Role == api.RoleLawyer || p.Role == api.RoleHelper
}

// speaks says whether one of some strings has a term.
func (g guide) speaks(texts ...string) bool { return len(marksOf(g.terms, texts...)) > 0 }

// call says whether a right letter is privileged.
func (g guide) call(m api.Mail) api.Called {
	kind, why := g.judge(m)
	return api.Called{Id: m.Id, Kind: kind, Why: why}
}

// judge returns the kind and the reason of the call of a right letter.
func (g guide) judge(m api.Mail) (kind, why int) {
	mails, _ := thread.Parties(m)
	switch {
	case slices.ContainsFunc(mails, g.isPublic):
		return api.CallNone, api.WhyPublic
	case slices.ContainsFunc(mails, g.isOutside):
		return api.CallNone, api.WhyOutside
	case !slices.ContainsFunc(mails, g.counsels):
		return api.CallNone, api.WhyNoLawyer
	}
	own, _ := thread.Own(m.Body)
	if g.counsels(m.From.Mail) || g.speaks(m.Subject, own) {
		return api.CallFull, api.WhyAdvice
	}
	paragraphs, _ := thread.Paragraphs(m.Body)
	if g.speaks(paragraphs...) {
		return api.CallPart, api.WhyQuoted
	}
	return api.CallNone, api.WhyBusiness
}

// Call says whether a letter is privileged.
func Call(c api.Circle, m api.Mail) (api.Called, api.Errno) {
	g, e := guideFor(c, m)
	if e != api.OK {
		return api.Called{}, e
	}
	return g.call(m), api.OK
}

// Calls says of each letter whether it is privileged.
func Calls(c api.Circle, l []api.Mail) ([]api.Called, api.Errno) {
	g, e := guideForAll(c, l)
	if e != api.OK {
		return nil, e
	}
	var calls []api.Called
	for _, m := range l {
		calls = append(calls, g.call(m))
	}
	return calls, api.OK
}

// Outsiders returns the parties because of whom a letter is not privileged.
func Outsiders(c api.Circle, m api.Mail) ([]string, api.Errno) {
	g, e := guideFor(c, m)
	if e != api.OK {
		return nil, e
	}
	mails, _ := thread.Parties(m)
	return slices.DeleteFunc(mails, func(mail string) bool {
		return !g.isPublic(mail) && !g.isOutside(mail)
	}), api.OK
}
