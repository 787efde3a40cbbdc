package thread_test

import (
	"math"
	"strings"
	"testing"

	"paperchase/api"
	"paperchase/thread"
)

// P2.4
func TestCheckAccepts(t *testing.T) {
	large := full()
	large.Id = strings.Repeat("~", 80)
	large.At = api.End - 1
	large.To, large.Cc = addresses("to", 60), addresses("cc", 40)
	large.Refs = names("r", api.MaxRefs)
	large.Subject = xs(200)
	large.Body = strings.Repeat("\n", api.MaxBody)
	for _, m := range []api.Mail{
		full(), large,
		{Id: "!", From: api.Address{Mail: "a@b.de"}},
		{Id: "a", From: people("a")[0], To: people("a"), Refs: words("A"), Subject: "Größe re:", Body: "  é\n\n"},
	} {
		is(t, thread.Check(m), api.OK)
	}
}

// P2.4
func TestCheckRefuses(t *testing.T) {
	for _, c := range []struct {
		want api.Errno
		to   func(m *api.Mail)
	}{
		{api.ErrForm, func(m *api.Mail) { m.Id = "" }},
		{api.ErrForm, func(m *api.Mail) { m.Id = xs(81) }},
		{api.ErrForm, func(m *api.Mail) { m.Id = "a b" }},
		{api.ErrForm, func(m *api.Mail) { m.Id = "<a>" }},
		{api.ErrForm, func(m *api.Mail) { m.Id = "a\x7f" }},
		{api.ErrForm, func(m *api.Mail) { m.Id = "é" }},
		{api.ErrArg, func(m *api.Mail) { m.At = -1 }},
		{api.ErrArg, func(m *api.Mail) { m.At = api.End }},
		{api.ErrArg, func(m *api.Mail) { m.At = math.MinInt }},
		{api.ErrForm, func(m *api.Mail) { m.From = api.Address{} }},
		{api.ErrForm, func(m *api.Mail) { m.From.Mail = "Ann@b.de" }},
		{api.ErrForm, func(m *api.Mail) { m.From.Name = "Lee, Ann" }},
		{api.ErrLarge, func(m *api.Mail) { m.To, m.Cc = addresses("to", 61), addresses("cc", 40) }},
		{api.ErrForm, func(m *api.Mail) { m.To[1].Mail = "cy" }},
		{api.ErrForm, func(m *api.Mail) { m.Cc[0].Name = " " }},
		{api.ErrTwice, func(m *api.Mail) { m.To = people("bo cy bo") }},
		{api.ErrTwice, func(m *api.Mail) { m.Cc = people("di cy") }},
		{api.ErrTwice, func(m *api.Mail) { m.Cc = []api.Address{{Name: "Other", Mail: "bo@b.de"}} }},
		{api.ErrLarge, func(m *api.Mail) { m.Refs = names("r", api.MaxRefs+1) }},
		{api.ErrForm, func(m *api.Mail) { m.Refs[1] = "" }},
		{api.ErrForm, func(m *api.Mail) { m.Refs[0] = ">" }},
		{api.ErrTwice, func(m *api.Mail) { m.Refs = words("r1 r2 r1") }},
		{api.ErrLoop, func(m *api.Mail) { m.Refs = words("r1 id@x") }},
		{api.ErrForm, func(m *api.Mail) { m.Subject = xs(201) }},
		{api.ErrForm, func(m *api.Mail) { m.Subject = "a  b" }},
		{api.ErrForm, func(m *api.Mail) { m.Subject = "a\n" }},
		{api.ErrLarge, func(m *api.Mail) { m.Body = xs(api.MaxBody + 1) }},
		{api.ErrForm, func(m *api.Mail) { m.Body = "no line feed" }},
		{api.ErrForm, func(m *api.Mail) { m.Body = "\t\n" }},
	} {
		m := full()
		c.to(&m)
		is(t, thread.Check(m), c.want)
		s, e := thread.Print(m)
		fails(t, e, c.want, s)
		l, e := thread.Parties(m)
		fails(t, e, c.want, l)
	}
}

// P2.4, Z4: the first error in the order of the chapter, and element by element.
func TestCheckOrder(t *testing.T) {
	m := api.Mail{At: -1, To: addresses("to", 101), Cc: people("cc"), Refs: names("r", 51), Subject: " ", Body: xs(api.MaxBody + 1)}
	m.Refs[0] = ""
	m.To[0].Mail = ""
	for _, step := range []struct {
		e    api.Errno
		mend func()
	}{
		{api.ErrForm, func() { m.Id = "id" }},
		{api.ErrArg, func() { m.At = 0 }},
		{api.ErrForm, func() { m.From.Mail = "a@b.de" }},
		{api.ErrLarge, func() { m.To, m.Cc = people("a b a"), []api.Address{{}} }},
		{api.ErrTwice, func() { m.To = people("a b") }},
		{api.ErrForm, func() { m.Cc = people("a") }},
		{api.ErrTwice, func() { m.Cc = nil }},
		{api.ErrLarge, func() { m.Refs = []string{"a", "a", "", "id"} }},
		{api.ErrTwice, func() { m.Refs = []string{"id", "", "id"} }},
		{api.ErrLoop, func() { m.Refs = []string{"", "id"} }},
		{api.ErrForm, func() { m.Refs = nil }},
		{api.ErrForm, func() { m.Subject = "" }},
		{api.ErrLarge, func() { m.Body = "x" }},
		{api.ErrForm, func() { m.Body = "" }},
		{api.OK, func() {}},
	} {
		is(t, thread.Check(m), step.e)
		step.mend()
	}
}

// P2.5
func TestParties(t *testing.T) {
	m := full()
	m.To = people("zed bo ann")
	m.Cc = people("cy")
	l, e := thread.Parties(m)
	is(t, []any{l, e}, []any{words("ann@b.de bo@b.de cy@b.de zed@b.de"), api.OK})
	l, e = thread.Parties(api.Mail{Id: "a", From: people("x")[0]})
	is(t, []any{l, e}, []any{words("x@b.de"), api.OK})
}

// P2.5
func TestCheckMails(t *testing.T) {
	is(t, thread.CheckMails(nil), api.OK)
	is(t, thread.CheckMails(letters(api.MaxItems)), api.OK)
	eachBadList(t, func(l []api.Mail) (any, api.Errno) { return nil == l, thread.CheckMails(l) })
	is(t, thread.CheckMails([]api.Mail{mail("a", 1, "", ""), mail("a", 1, "", ""), {}}), api.ErrTwice)
	is(t, thread.CheckMails([]api.Mail{mail("a", 1, "", ""), {Id: "a"}, mail("a", 1, "", "")}), api.ErrForm)
	is(t, thread.CheckMails(append(letters(api.MaxItems), api.Mail{})), api.ErrLarge)
	l := letters(26)
	for i := range 25 {
		l[i].Body = strings.Repeat("\n", api.MaxBody)
	}
	is(t, thread.CheckMails(l), api.OK)
	l[25].Body = "\n"
	is(t, thread.CheckMails(l), api.ErrLarge)
	is(t, thread.CheckMails(append(l, l[0])), api.ErrTwice)
	is(t, thread.CheckMails(append(l, api.Mail{Id: "z", At: -1})), api.ErrArg)
}

// P2.5
func TestBetween(t *testing.T) {
	l := []api.Mail{mail("c", 3, "", ""), mail("a", 1, "", ""), full(), mail("b", 2, "", "")}
	l[1].To = nil
	l[3].From = people("cy")[0]
	for _, c := range []struct {
		a, b string
		want []int
	}{
		{"ann", "bo", []int{0, 2}}, {"bo", "ann", []int{0, 2}}, {"ann", "ann", []int{0, 1, 2}},
		{"di", "cy", []int{2}}, {"cy", "bo", []int{2, 3}}, {"ann", "zed", nil}, {"zed", "zed", nil},
	} {
		numbers, e := thread.Between(l, c.a+"@b.de", c.b+"@b.de")
		is(t, e, api.OK)
		is(t, numbers, c.want)
	}
	for _, c := range [][2]string{{"ann", "bo@b.de"}, {"ann@b.de", "Bo@b.de"}, {"", ""}, {"<ann@b.de>", "bo@b.de"}} {
		numbers, e := thread.Between(l, c[0], c[1])
		fails(t, e, api.ErrForm, numbers)
	}
	eachBadList(t, func(l []api.Mail) (any, api.Errno) { return thread.Between(l, "", "") })
	numbers, e := thread.Between(nil, "a@b.de", "a@b.de")
	is(t, []int{len(numbers), int(e)}, []int{0, 0})
	keepsArguments(t, func(l []api.Mail) { thread.Between(l, "ann@b.de", "bo@b.de") })
}
