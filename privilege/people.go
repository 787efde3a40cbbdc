// Package privilege says what is between lawyers and their clients: who is on which side, what is privileged, which words are covered up, and what the log has.
package privilege

import (
	"strings"

	"paperchase/api"
	"paperchase/shape"
)

// anybody is what makes an address of the Name of a domain.
const anybody = "x@"

// roleWord returns the word of a role; empty if there is no such role.
func roleWord(role int) string {
	switch role {
	case api.RoleLawyer:
		return "lawyer"
	case api.RoleClient:
		return "client"
	case api.RoleHelper:
		return "helper"
	case api.RoleOther:
		return "other"
	}
	return ""
}

// isPlace says whether there are such a side and such a role.
func isPlace(side, role int) bool {
	return api.SideOurs <= side && side <= api.SideThird && roleWord(role) != ""
}

// CheckPeople validates parties.
func CheckPeople(l []api.Party) api.Errno {
	if len(l) > api.MaxPeople {
		return api.ErrLarge
	}
	last := ""
	for _, p := range l {
		switch {
		case !shape.Address(p.Mail):
			return api.ErrForm
		case p.Mail <= last:
			return api.ErrOrder
		case !isPlace(p.Side, p.Role):
			return api.ErrKind
		}
		last = p.Mail
	}
	return api.OK
}

// book says which party has an address.
type book struct {
	people  map[string]api.Party  // by Mail
	domains map[string]api.Domain // by Name
}

// bookOf validates parties and domains, and returns the book of both.
func bookOf(l []api.Party, some []api.Domain) (book, api.Errno) {
	if e := CheckPeople(l); e != api.OK {
		return book{}, e
	}
	if len(some) > api.MaxDomains {
		return book{}, api.ErrLarge
	}
	b := book{map[string]api.Party{}, map[string]api.Domain{}}
	for _, p := range l {
		b.people[p.Mail] = p
	}
	for _, d := range some {
		if !shape.Address(anybody + d.Name) {
			return book{}, api.ErrForm
		}
		if _, twice := b.domains[d.Name]; twice {
			return book{}, api.ErrTwice
		}
		if !isPlace(d.Side, d.Role) {
			return book{}, api.ErrKind
		}
		b.domains[d.Name] = d
	}
	return b, api.OK
}

// party returns the party of an address, and whether there is one.
func (b book) party(mail string) (api.Party, bool) {
	if p, ok := b.people[mail]; ok {
		return p, true
	}
	_, name, more := strings.Cut(mail, "@")
	for more {
		if d, ok := b.domains[name]; ok {
			return api.Party{Mail: mail, Side: d.Side, Role: d.Role}, true
		}
		_, name, more = strings.Cut(name, ".")
	}
	return api.Party{}, false
}

// RoleOf returns the party with an address.
func RoleOf(l []api.Party, mail string) (api.Party, bool, api.Errno) {
	return Domains(l, nil, mail)
}

// Domains returns the party of an address.
func Domains(l []api.Party, some []api.Domain, mail string) (api.Party, bool, api.Errno) {
	b, e := bookOf(l, some)
	if e != api.OK {
		return api.Party{}, false, e
	}
	if !shape.Address(mail) {
		return api.Party{}, false, api.ErrForm
	}
	p, ok := b.party(mail)
	return p, ok, api.OK
}
