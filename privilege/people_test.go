package privilege_test

import (
	"math/rand/v2"
	"strings"
	"testing"

	"paperchase/api"
	"paperchase/privilege"
)

// P7.1
func TestCheckPeople(t *testing.T) {
	var all []api.Party
	for side := api.SideOurs; side <= api.SideThird; side++ {
		for role := api.RoleLawyer; role <= api.RoleOther; role++ {
			all = append(all, party(addresses(12)[len(all)], side, role))
		}
	}
	for _, l := range [][]api.Party{nil, all, manyPeople(1), manyPeople(api.MaxPeople), circle().People} {
		is(t, privilege.CheckPeople(l), api.OK)
	}
	is(t, privilege.CheckPeople(manyPeople(api.MaxPeople+1)), api.ErrLarge)
	for _, c := range []struct {
		e api.Errno
		p api.Party
	}{
		{api.ErrForm, party("", api.SideOurs, api.RoleClient)},
		{api.ErrForm, party("Bob@b.de", api.SideOurs, api.RoleClient)},
		{api.ErrForm, party("bob@b", api.SideOurs, api.RoleClient)},
		{api.ErrForm, party("<bob@b.de>", api.SideOurs, api.RoleClient)},
		{api.ErrOrder, party("ann@b.de", api.SideOurs, api.RoleClient)},
		{api.ErrOrder, party("aaa@b.de", api.SideOurs, api.RoleClient)},
	} {
		is(t, privilege.CheckPeople([]api.Party{party("ann@b.de", api.SideOurs, api.RoleClient), c.p}), c.e)
	}
	for _, kind := range badKinds() {
		is(t, privilege.CheckPeople([]api.Party{party("ann@b.de", kind, api.RoleClient)}), api.ErrKind)
		is(t, privilege.CheckPeople([]api.Party{party("ann@b.de", api.SideOurs, kind)}), api.ErrKind)
	}
	is(t, privilege.CheckPeople([]api.Party{party("ann@b.de", 4, api.RoleClient)}), api.ErrKind)
	eachBadPeople(t, func(l []api.Party) (api.Errno, []any) { return privilege.CheckPeople(l), nil })
}

// P7.1
func TestRoleOf(t *testing.T) {
	for _, p := range circle().People {
		got, ok, e := privilege.RoleOf(circle().People, p.Mail)
		gives(t, []any{got, ok}, e, []any{p, true})
	}
	for _, mail := range words("bob@firm.de ann@firm.d aann@firm.de law@ours.de zed@third.de a@a.a") {
		got, ok, e := privilege.RoleOf(circle().People, mail)
		gives(t, []any{got, ok}, e, []any{api.Party{}, false})
	}
	got, ok, e := privilege.RoleOf(nil, "ann@firm.de")
	gives(t, []any{got, ok}, e, []any{api.Party{}, false})
	for _, mail := range []string{"", "ann", "Ann@firm.de", "ann@firm.de ", "firm.de"} {
		got, ok, e := privilege.RoleOf(circle().People, mail)
		fails(t, e, api.ErrForm, got, ok)
	}
	eachBadPeople(t, func(l []api.Party) (api.Errno, []any) {
		got, ok, e := privilege.RoleOf(l, "")
		return e, []any{got, ok}
	})
}

// P7.1
func TestDomains(t *testing.T) {
	some := []api.Domain{
		domain("b.de", api.SideOurs, api.RoleOther),
		domain("x.a.b.de", api.SideThird, api.RoleHelper),
		domain("a.b.de", api.SideTheirs, api.RoleClient),
		domain("ab.de", api.SideThird, api.RoleLawyer),
	}
	l := []api.Party{party("ann@x.b.de", api.SideThird, api.RoleClient), party("bob@b.de", api.SideTheirs, api.RoleLawyer), party("cy@far.de", api.SideOurs, api.RoleHelper)}
	for mail, want := range map[string]api.Party{
		"ann@x.b.de":     l[0],
		"bob@b.de":       l[1],
		"cy@far.de":      l[2],
		"ann@b.de":       party("ann@b.de", api.SideOurs, api.RoleOther),
		"bob@x.b.de":     party("bob@x.b.de", api.SideOurs, api.RoleOther),
		"bob@a.b.de":     party("bob@a.b.de", api.SideTheirs, api.RoleClient),
		"bob@y.a.b.de":   party("bob@y.a.b.de", api.SideTheirs, api.RoleClient),
		"bob@xx.a.b.de":  party("bob@xx.a.b.de", api.SideTheirs, api.RoleClient),
		"bob@x.a.b.de":   party("bob@x.a.b.de", api.SideThird, api.RoleHelper),
		"bob@y.x.a.b.de": party("bob@y.x.a.b.de", api.SideThird, api.RoleHelper),
		"bob@aa.b.de":    party("bob@aa.b.de", api.SideOurs, api.RoleOther),
		"b.de@ab.de":     party("b.de@ab.de", api.SideThird, api.RoleLawyer),
		"bob@bb.de":      {},
		"b.de@bb.de":     {},
		"bob@b.de.com":   {},
		"bob@far.de":     {},
		"bob@x.far.de":   {},
	} {
		got, ok, e := privilege.Domains(l, some, mail)
		gives(t, []any{got, ok}, e, []any{want, want != api.Party{}})
	}
	got, ok, e := privilege.Domains(nil, nil, "bob@b.de")
	gives(t, []any{got, ok}, e, []any{api.Party{}, false})
	long := strings.Repeat("a", 30) + "." + strings.Repeat("b", 30) + "." + strings.Repeat("c", 16)
	got, ok, e = privilege.Domains(manyPeople(api.MaxPeople), append(manyDomains(api.MaxDomains-1), domain(long, api.SideOurs, api.RoleHelper)), "x@"+long)
	gives(t, []any{got, ok}, e, []any{party("x@"+long, api.SideOurs, api.RoleHelper), true})
}

// P7.1
func TestDomainsErrors(t *testing.T) {
	some := circle().Domains
	for _, name := range []string{"", "de", ".de", "b.", "B.de", "b de.de", "x@b.de", "b@de", "b_c.de", strings.Repeat("a", 31) + ".de", strings.Repeat("a.", 38) + "abc"} {
		got, ok, e := privilege.Domains(nil, append(some, domain(name, api.SideOurs, api.RoleClient)), "")
		fails(t, e, api.ErrForm, got, ok)
	}
	for _, kind := range badKinds() {
		for _, d := range []api.Domain{domain("b.de", kind, api.RoleClient), domain("b.de", api.SideOurs, kind)} {
			got, ok, e := privilege.Domains(nil, append(some, d), "")
			fails(t, e, api.ErrKind, got, ok)
		}
	}
	for _, mail := range []string{"", "b.de", "@firm.de", "Ann@firm.de", "a@b@firm.de", "x@firm.de\n"} {
		got, ok, e := privilege.Domains(circle().People, some, mail)
		fails(t, e, api.ErrForm, got, ok)
	}
	eachBadPeople(t, func(l []api.Party) (api.Errno, []any) {
		got, ok, e := privilege.Domains(l, []api.Domain{some[0], some[0]}, "")
		return e, []any{got, ok}
	})
	eachBadDomains(t, func(l []api.Domain) (api.Errno, []any) {
		got, ok, e := privilege.Domains(nil, l, "a@b.de")
		return e, []any{got, ok}
	})
}

// P7.1: Domains is as the document's words say.
func TestDomainsRandom(t *testing.T) {
	r := rand.New(rand.NewPCG(7, 1))
	someName := func() string { return pick(r, "", "a.", "b.", "a.b.", "b.a.") + pick(r, "a.a", "b.a", "ab.a", "a.b") }
	for range 5_000 {
		var some []api.Domain
		has := map[string]bool{}
		for range r.IntN(6) {
			if s := someName(); !has[s] {
				some = append(some, domain(s, 1+r.IntN(3), 1+r.IntN(4)))
				has[s] = true
			}
		}
		l := []api.Party{party("p@"+someName(), 1+r.IntN(3), 1+r.IntN(4))}
		mail := "p@" + someName()
		want, found := api.Party{}, false
		most := -1
		for _, d := range some {
			if (mail == "p@"+d.Name || strings.HasSuffix(mail, "."+d.Name)) && len(d.Name) > most {
				want, found, most = party(mail, d.Side, d.Role), true, len(d.Name)
			}
		}
		if l[0].Mail == mail {
			want, found = l[0], true
		}
		got, ok, e := privilege.Domains(l, some, mail)
		gives(t, []any{got, ok}, e, []any{want, found})
	}
}
