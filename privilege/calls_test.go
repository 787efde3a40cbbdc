package privilege_test

import (
	"math/rand/v2"
	"slices"
	"strings"
	"testing"

	"paperchase/api"
	"paperchase/privilege"
	"paperchase/thread"
)

func called(id string, kind, why int) api.Called { return api.Called{Id: id, Kind: kind, Why: why} }

// P7.3
func TestCall(t *testing.T) {
	for _, c := range []struct {
		m         api.Mail
		kind, why int
	}{
		// Public comes before all else.
		{mail("a", "law@ours.de", "all@firm.de", "court\n"), api.CallNone, api.WhyPublic},
		{mail("b", "all@firm.de", "law@ours.de", "court\n"), api.CallNone, api.WhyPublic},
		{copied(mail("c", "law@ours.de", "cy@else.de", "court\n"), "press@news.de"), api.CallNone, api.WhyPublic},
		{mail("d", "ann@firm.de", "all@firm.de", ""), api.CallNone, api.WhyPublic},
		// Others are outside: without a party, of the other side, of a third one.
		{mail("e", "law@ours.de", "cy@else.de ann@firm.de", "court\n"), api.CallNone, api.WhyOutside},
		{mail("f", "law@ours.de", "bob@x.firm.de", "court\n"), api.CallNone, api.WhyOutside},
		{mail("g", "law@ours.de", "bob@y.x.firm.de", "court\n"), api.CallNone, api.WhyOutside},
		{copied(mail("h", "law@ours.de", "ann@firm.de", "court\n"), "tom@third.de"), api.CallNone, api.WhyOutside},
		{mail("i", "eve@ours.de", "law@ours.de", "court\n"), api.CallNone, api.WhyOutside},
		{mail("j", "ann@firm.de", "cy@else.de", ""), api.CallNone, api.WhyOutside},
		// Nobody counsels.
		{mail("k", "ann@firm.de", "bob@firm.de", "court\n"), api.CallNone, api.WhyNoLawyer},
		{mail("l", "ann@firm.de", "", "court\n"), api.CallNone, api.WhyNoLawyer},
		// A lawyer or a helper writes, or somebody writes of advice to one.
		{mail("m", "law@ours.de", "ann@firm.de", ""), api.CallFull, api.WhyAdvice},
		{mail("n", "law@ours.de", "", "lunch\n"), api.CallFull, api.WhyAdvice},
		{mail("o", "hal@aid.de", "ann@firm.de", "lunch\n"), api.CallFull, api.WhyAdvice},
		{about(mail("p", "ann@firm.de", "law@ours.de", ""), "The COURT"), api.CallFull, api.WhyAdvice},
		{mail("q", "ann@firm.de", "law@ours.de", "In court!\n"), api.CallFull, api.WhyAdvice},
		{copied(mail("r", "bob@firm.de", "ann@firm.de", "Legal\nadvice\n"), "hal@aid.de"), api.CallFull, api.WhyAdvice},
		{mail("s", "ann@firm.de", "law@ours.de", "legal\n> x\nadvice\n"), api.CallFull, api.WhyAdvice}, // own lines follow one another
		{mail("t", "ann@firm.de", "law@ours.de", "> court\ncourt\n"), api.CallFull, api.WhyAdvice},
		{mail("u", "ann@firm.de", "law@ours.de", "legal\n\nadvice\n"), api.CallFull, api.WhyAdvice},
		// Only what is quoted has a term.
		{mail("v", "ann@firm.de", "law@ours.de", "see\n> In Court\n"), api.CallPart, api.WhyQuoted},
		{mail("w", "ann@firm.de", "hal@aid.de", ">> legal\n>> advice\n"), api.CallPart, api.WhyQuoted},
		// There is none in a paragraph.
		{mail("x", "ann@firm.de", "law@ours.de", "lunch\n> yes\n"), api.CallNone, api.WhyBusiness},
		{mail("y", "ann@firm.de", "law@ours.de", "> legal\n>\n> advice\n"), api.CallNone, api.WhyBusiness},
		{mail("z", "ann@firm.de", "law@ours.de", "> legal\n>> advice\n"), api.CallNone, api.WhyBusiness},
		{mail("a1", "ann@firm.de", "law@ours.de", "legal\n> advice\n"), api.CallNone, api.WhyBusiness},
		{mail("b1", "ann@firm.de", "law@ours.de", "The court wrote:\n> yes\n"), api.CallNone, api.WhyBusiness}, // who wrote is in no paragraph
		{about(mail("c1", "ann@firm.de", "law@ours.de", "advice\n"), "legal"), api.CallNone, api.WhyBusiness},
		{about(mail("d1", "ann@firm.de", "hal@aid.de", ""), ""), api.CallNone, api.WhyBusiness},
	} {
		got, e := privilege.Call(circle(), c.m)
		gives(t, got, e, called(c.m.Id, c.kind, c.why))
		all, e := privilege.Calls(circle(), []api.Mail{good(), c.m})
		gives(t, all, e, []api.Called{called("good", api.CallFull, api.WhyAdvice), called(c.m.Id, c.kind, c.why)})
	}
	got, e := privilege.Call(api.Circle{}, good())
	gives(t, got, e, called("good", api.CallNone, api.WhyOutside))
	c := circle()
	c.Terms = nil
	got, e = privilege.Call(c, good())
	gives(t, got, e, called("good", api.CallNone, api.WhyBusiness))
}

// P7.3
func TestCallErrors(t *testing.T) {
	eachBadCircle(t, func(c api.Circle) (api.Errno, []any) {
		got, e := privilege.Call(c, api.Mail{Id: "a", At: -1})
		return e, []any{got}
	})
	eachBadLetter(t, func(m api.Mail) (api.Errno, []any) {
		got, e := privilege.Call(circle(), m)
		return e, []any{got}
	})
	got, e := privilege.Call(api.Circle{People: manyPeople(api.MaxPeople), Domains: manyDomains(api.MaxDomains), Terms: names("t", api.MaxTerms), Public: addresses(api.MaxPeople)}, good())
	gives(t, got, e, called("good", api.CallNone, api.WhyOutside))
}

// P7.3
func TestCalls(t *testing.T) {
	l := []api.Mail{
		mail("b", "ann@firm.de", "law@ours.de", ""),
		mail("a", "law@ours.de", "all@firm.de", ""),
		mail("c", "law@ours.de", "", ""),
	}
	got, e := privilege.Calls(circle(), l)
	gives(t, got, e, []api.Called{called("b", api.CallNone, api.WhyBusiness), called("a", api.CallNone, api.WhyPublic), called("c", api.CallFull, api.WhyAdvice)})
	got, e = privilege.Calls(circle(), nil)
	gives(t, got, e, []api.Called{})
	got, e = privilege.Calls(circle(), manyLetters(api.MaxItems))
	is(t, []any{len(got), e}, []any{api.MaxItems, api.OK})
	eachBadCircle(t, func(c api.Circle) (api.Errno, []any) {
		got, e := privilege.Calls(c, []api.Mail{{Id: "a", At: -1}})
		return e, []any{got}
	})
	eachBadList(t, func(l []api.Mail) (api.Errno, []any) {
		got, e := privilege.Calls(circle(), l)
		return e, []any{got}
	})
}

// P7.3
func TestOutsiders(t *testing.T) {
	for _, c := range []struct {
		m    api.Mail
		want string
	}{
		{good(), ""},
		{mail("a", "ann@firm.de", "bob@firm.de", ""), ""},
		{mail("a", "law@ours.de", "zed@else.de ann@firm.de bob@x.firm.de", ""), "bob@x.firm.de zed@else.de"},
		{copied(mail("a", "tom@third.de", "eve@ours.de law@ours.de", ""), "cy@else.de"), "cy@else.de eve@ours.de tom@third.de"},
		{mail("a", "law@ours.de", "all@firm.de ann@firm.de", ""), "all@firm.de"},
		{copied(mail("a", "zed@else.de", "all@firm.de", ""), "press@news.de cy@else.de"), "all@firm.de cy@else.de press@news.de zed@else.de"},
		{mail("a", "zed@else.de", "zed@else.de", ""), "zed@else.de"},
	} {
		got, e := privilege.Outsiders(circle(), c.m)
		gives(t, got, e, words(c.want))
	}
	eachBadCircle(t, func(c api.Circle) (api.Errno, []any) {
		got, e := privilege.Outsiders(c, api.Mail{Id: "a", At: -1})
		return e, []any{got}
	})
	eachBadLetter(t, func(m api.Mail) (api.Errno, []any) {
		got, e := privilege.Outsiders(circle(), m)
		return e, []any{got}
	})
}

// callOf says word by word whether a letter is privileged.
func callOf(t *testing.T, c api.Circle, m api.Mail) api.Called {
	none, lawyer := 0, false
	mails, _ := thread.Parties(m)
	for _, x := range mails {
		p, ok, e := privilege.Domains(c.People, c.Domains, x)
		is(t, e, api.OK)
		switch {
		case slices.Contains(c.Public, x):
			none = api.WhyPublic
		case (!ok || p.Side != api.SideOurs) && none == 0:
			none = api.WhyOutside
		}
		lawyer = lawyer || ok && (p.Role == api.RoleLawyer || p.Role == api.RoleHelper)
	}
	has := func(text string) bool {
		return slices.ContainsFunc(c.Terms, func(term string) bool { return hasTerm(term, text) })
	}
	own, _ := thread.Own(m.Body)
	paragraphs, _ := thread.Paragraphs(m.Body)
	from, _, _ := privilege.Domains(c.People, c.Domains, m.From.Mail)
	switch {
	case none != 0:
		return called(m.Id, api.CallNone, none)
	case !lawyer:
		return called(m.Id, api.CallNone, api.WhyNoLawyer)
	case from.Role == api.RoleLawyer || from.Role == api.RoleHelper || has(m.Subject) || has(own):
		return called(m.Id, api.CallFull, api.WhyAdvice)
	case slices.ContainsFunc(paragraphs, has):
		return called(m.Id, api.CallPart, api.WhyQuoted)
	}
	return called(m.Id, api.CallNone, api.WhyBusiness)
}

// P7.3: calls are as the document's words say; with an outsider more a letter is not privileged.
func TestCallsRandom(t *testing.T) {
	r := rand.New(rand.NewPCG(7, 3))
	seen := map[api.Called]int{}
	for range 3_000 {
		l := randomLetters(r)
		calls, e := privilege.Calls(circle(), l)
		is(t, e, api.OK)
		is(t, len(calls), len(l))
		for i, m := range l {
			want := callOf(t, circle(), m)
			is(t, calls[i], want)
			one, e := privilege.Call(circle(), m)
			gives(t, one, e, want)
			outsiders, e := privilege.Outsiders(circle(), m)
			is(t, e, api.OK)
			is(t, len(outsiders) > 0, want.Why == api.WhyPublic || want.Why == api.WhyOutside)
			m.Cc = append(m.Cc, people(pick(r, "new@else.de", "eve@ours.de", "press@news.de"))...)
			one, e = privilege.Call(circle(), m)
			is(t, []any{one.Kind, e}, []any{api.CallNone, api.OK})
			want.Id = ""
			seen[want]++
		}
	}
	is(t, len(seen), 6)
}

// Z2
func TestCallsKeep(t *testing.T) {
	keepsCircle(t, func(c api.Circle, l []api.Mail) {
		got, e := privilege.Calls(c, l)
		is(t, e, api.OK)
		got[0].Id = "?"
		_, e = privilege.Call(c, l[0])
		is(t, e, api.OK)
		mails, e := privilege.Outsiders(c, l[2])
		gives(t, mails, e, words("all@firm.de zed@else.de"))
		mails[0] = "?"
		_ = append(mails, "?")
		mark, e := privilege.Describe(c, l[0])
		gives(t, mark, e, "advice from lawyer to client, helper, other re court")
		_, ok, e := privilege.Domains(c.People, c.Domains, "bob@firm.de")
		gives(t, ok, e, true)
	})
}

// P7.3: the greatest letters and circles.
func TestCallsLarge(t *testing.T) {
	c := api.Circle{People: manyPeople(api.MaxPeople), Domains: manyDomains(api.MaxDomains), Terms: names("t", api.MaxTerms), Public: nil}
	c.People[0].Role = api.RoleLawyer
	var l []api.Mail
	for _, id := range names("m", api.MaxItems) {
		m := mail(id, c.People[1].Mail, strings.Join(addresses(api.MaxParties), " "), strings.Repeat("> a\n>\n", 41))
		l = append(l, m)
	}
	l[1_000].Body += ">> " + c.Terms[199] + "\n"
	got, e := privilege.Calls(c, l)
	is(t, e, api.OK)
	for i, x := range got {
		want := called(l[i].Id, api.CallNone, api.WhyBusiness)
		if i == 1_000 {
			want = called(l[i].Id, api.CallPart, api.WhyQuoted)
		}
		is(t, x, want)
	}
}
