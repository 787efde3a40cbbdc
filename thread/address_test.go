package thread_test

import (
	"math/rand/v2"
	"strings"
	"testing"

	"paperchase/api"
	"paperchase/thread"
)

func xs(n int) string { return strings.Repeat("x", n) }

// P2.1
func TestAddress(t *testing.T) {
	for text, want := range map[string]api.Address{
		"a@b.de":                     {Mail: "a@b.de"},
		"  A.B-c_D+9@B-9.Sub.DE  ":   {Mail: "a.b-c_d+9@b-9.sub.de"},
		"<a@b.de>":                   {Mail: "a@b.de"},
		" <A@b.de> ":                 {Mail: "a@b.de"},
		"Ann <a@b.de>":               {Name: "Ann", Mail: "a@b.de"},
		" Ann B. Lée   <a@b.de>":     {Name: "Ann B. Lée", Mail: "a@b.de"},
		"a@b.de <c@d.de>":            {Name: "a@b.de", Mail: "c@d.de"},
		`"Bo, Ann" <a@b.de>`:         {Name: "Ann Bo", Mail: "a@b.de"},
		`"van Bo, Ann Lu"  <a@b.de>`: {Name: "Ann Lu van Bo", Mail: "a@b.de"},
		`"Ann Bo" <a@b.de>`:          {Name: "Ann Bo", Mail: "a@b.de"},
		"-@-.-":                      {Mail: "-@-.-"},
		".@a.b":                      {Mail: ".@a.b"},
		xs(60) + " <a@b.de>":         {Name: xs(60), Mail: "a@b.de"},
		`"` + xs(30) + ", " + xs(29) + `" <a@b.de>`:   {Name: xs(29) + " " + xs(30), Mail: "a@b.de"},
		strings.Repeat(" ", 494) + "a@b.de":           {Mail: "a@b.de"},
		"Ann" + strings.Repeat(" ", 489) + "<a@b.de>": {Name: "Ann", Mail: "a@b.de"},
	} {
		a, e := thread.Address(text)
		is(t, []any{a, e}, []any{want, api.OK})
	}
}

// P2.1
func TestAddressErrors(t *testing.T) {
	for _, text := range []string{
		"", " ", "ann", "@b.de", "a@", "a@de", "a@b.", "a@.de", "a@b..de", "a@b@c.de", "a b@c.de", "ä@b.de", "a@bä.de", "a@b_c.de", "\u212a@b.de", "a@b.de\n", "\ta@b.de", "a\xff@b.de",
		"a@b.de>", "<a@b.de", "< a@b.de>", "<a@b.de >", "<<a@b.de>>", "<a@b.de>,", "<a@b.de> Ann", "<>",
		"Ann a@b.de", "Ann<a@b.de>", "Ann  Lee <a@b.de>", "Ann, Bo <a@b.de>", "Ann; Bo <a@b.de>", "Ann > <a@b.de>", "Ann < <a@b.de>", `An"n <a@b.de>`, `Ann" <a@b.de>`, "An\tn <a@b.de>", "\xff <a@b.de>", "Ann\x7f <a@b.de>",
		`"" <a@b.de>`, `" <a@b.de>`, `"Ann <a@b.de>`, `"Ann"<a@b.de>`, `"Ann" Lee <a@b.de>`, `"Ann" a@b.de`, `"Ann"`, `"a@b.de"`, `" Ann" <a@b.de>`, `"Ann " <a@b.de>`, `"Ann  Lee" <a@b.de>`, `"A<n" <a@b.de>`, `"A;n" <a@b.de>`, `"A"n" <a@b.de>`,
		`"Bo,Ann" <a@b.de>`, `", Ann" <a@b.de>`, `"Bo, " <a@b.de>`, `", " <a@b.de>`, `"," <a@b.de>`, `"Bo,  Ann" <a@b.de>`, `"Bo , Ann" <a@b.de>`, `"Bo, Ann, Cy" <a@b.de>`, `"Bo,, Ann" <a@b.de>`,
		xs(61) + " <a@b.de>", `"` + xs(61) + `" <a@b.de>`, `"` + xs(30) + ", " + xs(30) + `" <a@b.de>`,
		xs(500),
	} {
		a, e := thread.Address(text)
		if e != api.ErrSyntax {
			t.Errorf("%q", text)
		}
		fails(t, e, api.ErrSyntax, a)
	}
	for _, text := range []string{xs(501), strings.Repeat(" ", 495) + "a@b.de"} {
		a, e := thread.Address(text)
		fails(t, e, api.ErrLarge, a)
	}
}

// P2.1: the lengths of the parts of a mail.
func TestAddressLengths(t *testing.T) {
	long := xs(40) + "@" + xs(30) + "." + xs(8)
	is(t, len(long), 80)
	for mail, want := range map[string]api.Errno{
		long: api.OK, long + "x": api.ErrSyntax, xs(41) + "@b.de": api.ErrSyntax,
		"a@" + xs(30) + "." + xs(30): api.OK, "a@" + xs(31) + ".de": api.ErrSyntax, "a@b." + xs(31): api.ErrSyntax,
	} {
		_, e := thread.Address(mail)
		is(t, e, want)
		_, e = thread.PrintAddress(api.Address{Mail: mail})
		is(t, e == api.OK, want == api.OK)
	}
}

// P2.1
func TestAddresses(t *testing.T) {
	for text, want := range map[string][]api.Address{
		"":                 nil,
		" ;, ,":            nil,
		"a@b.de":           people("a"),
		"c@b.de,a@b.de":    people("c a"),
		"c@b.de; <a@b.de>": people("c a"),
		",a@b.de,;":        people("a"),
		`Ann <a@b.de>, A@B.de; "x" <a@b.de>, c@b.de`: {{Name: "Ann", Mail: "a@b.de"}, {Mail: "c@b.de"}},
		`a@b.de, Ann <A@b.de>`:                       people("a"),
		`"Lee, Ann" <a@b.de>;"Bo, Cy" <c@b.de>`:      {{Name: "Ann Lee", Mail: "a@b.de"}, {Name: "Cy Bo", Mail: "c@b.de"}},
		strings.Repeat(" ", 600) + "a@b.de":          people("a"),
	} {
		l, e := thread.Addresses(text)
		is(t, e, api.OK)
		is(t, l, want)
	}
}

// P2.1
func TestAddressesErrors(t *testing.T) {
	for _, text := range []string{
		"a@b.de c@b.de", "a@b.de, x", "a@b.de,\n", "Lee, Ann <a@b.de>", `"Lee, Ann <a@b.de>, c@b.de`, `"",a@b.de`, `a@b.de, "`, `"a;b" <a@b.de>`, "\xff",
	} {
		l, e := thread.Addresses(text)
		fails(t, e, api.ErrSyntax, l)
	}
	for _, text := range []string{
		strings.Repeat(" ", 20_001), strings.Repeat("a@b.de,", 101), strings.Repeat("?;", 101),
	} {
		l, e := thread.Addresses(text)
		fails(t, e, api.ErrLarge, l)
	}
	l, e := thread.Addresses(strings.Repeat("a@b.de, ;", 100))
	is(t, []any{l, e}, []any{people("a"), api.OK})
	var parts []string
	for _, a := range addresses("p", api.MaxParties) {
		parts = append(parts, a.Mail)
	}
	text := strings.Join(parts, ";")
	l, e = thread.Addresses(text + strings.Repeat(" ", 20_000-len(text)))
	is(t, []any{l, e}, []any{addresses("p", api.MaxParties), api.OK})
}

// P2.1
func TestPrintAddress(t *testing.T) {
	for want, a := range map[string]api.Address{
		"a@b.de":             {Mail: "a@b.de"},
		"Ann Lée <a@b.de>":   {Name: "Ann Lée", Mail: "a@b.de"},
		xs(60) + " <a@b.de>": {Name: xs(60), Mail: "a@b.de"},
		"A. <+@-.z>":         {Name: "A.", Mail: "+@-.z"},
	} {
		s, e := thread.PrintAddress(a)
		is(t, []any{s, e}, []any{want, api.OK})
		back, e := thread.Address(s)
		is(t, []any{back, e}, []any{a, api.OK})
	}
	for _, a := range []api.Address{
		{}, {Name: "Ann"}, {Mail: "A@b.de"}, {Mail: "a@b"}, {Mail: " a@b.de"}, {Mail: "<a@b.de>"},
		{Name: xs(61), Mail: "a@b.de"}, {Name: " ", Mail: "a@b.de"}, {Name: "a  b", Mail: "a@b.de"}, {Name: "a,", Mail: "a@b.de"}, {Name: "a;b", Mail: "a@b.de"},
		{Name: `"a"`, Mail: "a@b.de"}, {Name: "<", Mail: "a@b.de"}, {Name: ">", Mail: "a@b.de"}, {Name: "a\n", Mail: "a@b.de"}, {Name: "\xff", Mail: "a@b.de"},
	} {
		s, e := thread.PrintAddress(a)
		fails(t, e, api.ErrForm, s)
	}
}

// P2.1: whatever is read can be printed, and is then read again.
func TestAddressOfAnything(t *testing.T) {
	r := rand.New(rand.NewPCG(2, 1))
	read := 0
	for range 50_000 {
		s := ""
		for range r.IntN(7) {
			s += pick(r, "a@b.de", "Ann", "A", " ", " ", "<", ">", "<a@b.de>", `"`, `"Lee, Ann"`, ", ", ";")
		}
		l, e := thread.Addresses(s)
		if e != api.OK {
			fails(t, e, api.ErrSyntax, l)
			continue
		}
		for _, a := range l {
			read++
			back, e := thread.PrintAddress(a)
			is(t, e, api.OK)
			again, e := thread.Address(back)
			is(t, []any{again, e}, []any{a, api.OK})
		}
	}
	if read < 1_000 {
		t.Errorf("only %d addresses were read", read)
	}
}
