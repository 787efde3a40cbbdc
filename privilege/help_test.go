package privilege_test

import (
	"math"
	"math/rand/v2"
	"reflect"
	"slices"
	"strconv"
	"strings"
	"testing"

	"paperchase/api"
)

// is compares values; an empty and a nil list are the same (Z5).
func is(t *testing.T, got, want any) {
	t.Helper()
	if !reflect.DeepEqual(got, want) && !(isEmptyList(got) && isEmptyList(want)) {
		t.Errorf("got %+v, want %+v", got, want)
	}
}

func isEmptyList(x any) bool {
	v := reflect.ValueOf(x)
	return v.Kind() == reflect.Slice && v.Len() == 0
}

// gives checks a result that comes without an error.
func gives(t *testing.T, got any, e api.Errno, want any) {
	t.Helper()
	is(t, e, api.OK)
	is(t, got, want)
}

// fails checks an error, and that all other results are zero values (Z3).
func fails(t *testing.T, e, want api.Errno, results ...any) {
	t.Helper()
	if e != want {
		t.Errorf("got error %d, want %d", e, want)
	}
	for _, r := range results {
		if !isEmptyList(r) && !reflect.ValueOf(r).IsZero() {
			t.Errorf("with error %d got %+v", e, r)
		}
	}
}

func words(s string) []string { return strings.Fields(s) }

// parts are what stands between the signs `;`.
func parts(s string) []string {
	if s == "" {
		return nil
	}
	return strings.Split(s, ";")
}

// name makes names that are in order.
func name(start string, i int) string { return start + strconv.Itoa(1_000_000 + i)[1:] }

func names(start string, many int) []string {
	var l []string
	for i := range many {
		l = append(l, name(start, i))
	}
	return l
}

// addresses makes many addresses that are in order.
func addresses(many int) []string {
	l := names("a", many)
	for i := range l {
		l[i] += "@b.de"
	}
	return l
}

// step changes a value so that its next error is another one.
type step struct {
	e    api.Errno
	mend func()
}

// badMoments are no moments.
func badMoments() []int { return []int{-1, api.End, math.MinInt, math.MaxInt} }

// badKinds are neither sides nor roles.
func badKinds() []int { return []int{0, -1, 5, math.MinInt, math.MaxInt} }

// Circles.

func party(mail string, side, role int) api.Party {
	return api.Party{Mail: mail, Side: side, Role: role}
}

func domain(name string, side, role int) api.Domain {
	return api.Domain{Name: name, Side: side, Role: role}
}

// circle is what the letters of these tests go by.
func circle() api.Circle {
	return api.Circle{
		People: []api.Party{
			party("ann@firm.de", api.SideOurs, api.RoleClient),
			party("eve@ours.de", api.SideTheirs, api.RoleLawyer),
			party("hal@aid.de", api.SideOurs, api.RoleHelper),
			party("tom@third.de", api.SideThird, api.RoleOther),
		},
		Domains: []api.Domain{
			domain("firm.de", api.SideOurs, api.RoleOther),
			domain("x.firm.de", api.SideTheirs, api.RoleOther),
			domain("ours.de", api.SideOurs, api.RoleLawyer),
		},
		Terms:  parts("4711;court;legal advice;secret;über recht"),
		Public: words("all@firm.de press@news.de"),
	}
}

func manyPeople(many int) []api.Party {
	var l []api.Party
	for _, mail := range addresses(many) {
		l = append(l, party(mail, api.SideOurs, api.RoleClient))
	}
	return l
}

func manyDomains(many int) []api.Domain {
	var l []api.Domain
	for _, s := range names("d", many) {
		l = append(l, domain(s+".de", api.SideOurs, api.RoleClient))
	}
	return l
}

// eachBadPeople calls a function with parties that have the errors of CheckPeople, one after the other.
func eachBadPeople(t *testing.T, call func(l []api.Party) (api.Errno, []any)) {
	t.Helper()
	l := make([]api.Party, api.MaxPeople+1)
	l[0] = party("b@b.de", api.SideThird, api.RoleOther)
	p := &l[1]
	for _, s := range []step{
		{api.ErrLarge, func() {}},
		{api.ErrForm, func() { l = l[:3] }},
		{api.ErrOrder, func() { p.Mail = "b@b.de" }},
		{api.ErrOrder, func() { p.Mail = "a@b.de" }},
		{api.ErrKind, func() { p.Mail = "c@b.de" }},
		{api.ErrKind, func() { p.Side = api.SideOurs }},
		{api.ErrForm, func() { p.Role = api.RoleLawyer }}, // the third one
	} {
		s.mend()
		e, results := call(l)
		fails(t, e, s.e, results...)
	}
}

// eachBadDomains calls a function with domains that have all errors, one after the other.
func eachBadDomains(t *testing.T, call func(l []api.Domain) (api.Errno, []any)) {
	t.Helper()
	l := make([]api.Domain, api.MaxDomains+1)
	l[0] = domain("b.de", api.SideThird, api.RoleOther)
	d := &l[1]
	for _, s := range []step{
		{api.ErrLarge, func() {}},
		{api.ErrForm, func() { l = l[:3] }},
		{api.ErrTwice, func() { d.Name = "b.de" }},
		{api.ErrKind, func() { d.Name = "a.de" }},
		{api.ErrKind, func() { d.Side = api.SideOurs }},
		{api.ErrForm, func() { d.Role = api.RoleLawyer }}, // the third one
	} {
		s.mend()
		e, results := call(l)
		fails(t, e, s.e, results...)
	}
}

// eachBadRise calls a function with lists that have more than so many strings, or wrong ones, or do not rise; a and b are right and do.
func eachBadRise(t *testing.T, most int, a, b string, call func(l []string) (api.Errno, []any)) {
	t.Helper()
	l := make([]string, most+1)
	l[0] = a
	for _, s := range []step{
		{api.ErrLarge, func() {}},
		{api.ErrForm, func() { l = l[:3] }},
		{api.ErrOrder, func() { l[1] = a }},
		{api.ErrForm, func() { l[1] = b }}, // the third one
		{api.ErrOrder, func() { l[2] = a }},
	} {
		s.mend()
		e, results := call(l)
		fails(t, e, s.e, results...)
	}
}

// eachBadCircle calls a function with circles of which a part is wrong, and all parts after it, too.
func eachBadCircle(t *testing.T, call func(c api.Circle) (api.Errno, []any)) {
	t.Helper()
	domains := []api.Domain{domain("b.de", 1, 1), {Name: "b.de"}} // ErrTwice
	terms := words("b a")                                         // ErrOrder
	public := make([]string, api.MaxPeople+1)                     // ErrLarge
	eachBadPeople(t, func(l []api.Party) (api.Errno, []any) {
		return call(api.Circle{People: l, Domains: domains, Terms: terms, Public: public})
	})
	eachBadDomains(t, func(l []api.Domain) (api.Errno, []any) {
		return call(api.Circle{People: manyPeople(9), Domains: l, Terms: terms, Public: public})
	})
	eachBadRise(t, api.MaxTerms, "a", "b c", func(l []string) (api.Errno, []any) {
		return call(api.Circle{Domains: domains[:1], Terms: l, Public: public})
	})
	eachBadRise(t, api.MaxPeople, "a@b.de", "b@b.de", func(l []string) (api.Errno, []any) {
		return call(api.Circle{Terms: terms[:1], Public: l})
	})
}

// Letters.

func people(mails string) []api.Address {
	var l []api.Address
	for _, mail := range words(mails) {
		l = append(l, api.Address{Mail: mail})
	}
	return l
}

func mail(id, from, to, body string) api.Mail {
	return api.Mail{Id: id, At: 10, From: people(from)[0], To: people(to), Subject: "S", Body: body}
}

func at(m api.Mail, at int) api.Mail {
	m.At = at
	return m
}

func about(m api.Mail, subject string) api.Mail {
	m.Subject = subject
	return m
}

func after(m api.Mail, refs string) api.Mail {
	m.Refs = words(refs)
	return m
}

func copied(m api.Mail, cc string) api.Mail {
	m.Cc = people(cc)
	return m
}

// good is a letter that is privileged.
func good() api.Mail { return mail("good", "ann@firm.de", "law@ours.de", "legal advice\n") }

// badLetters are letters with the errors of thread.Check.
func badLetters() map[api.Errno]api.Mail {
	form, arg, large, twice, loop := good(), good(), good(), good(), good()
	form.Id = ""
	arg.At = -1
	large.Cc = people(strings.Join(addresses(api.MaxParties), " "))
	twice.Cc = people("law@ours.de")
	loop.Refs = words("good")
	return map[api.Errno]api.Mail{api.ErrForm: form, api.ErrArg: arg, api.ErrLarge: large, api.ErrTwice: twice, api.ErrLoop: loop}
}

// eachBadLetter calls a function with letters that thread.Check does not accept.
func eachBadLetter(t *testing.T, call func(m api.Mail) (api.Errno, []any)) {
	t.Helper()
	for want, m := range badLetters() {
		e, results := call(m)
		fails(t, e, want, results...)
	}
}

// eachBadList calls a function with letters that thread.CheckMails does not accept.
func eachBadList(t *testing.T, call func(l []api.Mail) (api.Errno, []any)) {
	t.Helper()
	a := mail("a", "ann@firm.de", "", "")
	eachBadLetter(t, func(m api.Mail) (api.Errno, []any) { return call([]api.Mail{a, m}) })
	e, results := call([]api.Mail{a, good(), a})
	fails(t, e, api.ErrTwice, results...)
	e, results = call(make([]api.Mail, api.MaxItems+1))
	fails(t, e, api.ErrLarge, results...)
	big := manyLetters(26)
	for i := range big {
		big[i].Body = strings.Repeat("\n", api.MaxBody)
	}
	e, results = call(big)
	fails(t, e, api.ErrLarge, results...)
}

func manyLetters(many int) []api.Mail {
	var l []api.Mail
	for _, id := range names("m", many) {
		l = append(l, mail(id, "law@ours.de", "ann@firm.de", id+"\n"))
	}
	return l
}

// keepsCircle calls a function with a circle and letters whose lists have room, and checks that they are as before (Z2).
func keepsCircle(t *testing.T, call func(c api.Circle, l []api.Mail)) {
	t.Helper()
	freshCircle := func() api.Circle {
		c := circle()
		c.People, c.Domains = append(c.People, api.Party{}), append(c.Domains, api.Domain{})
		c.Terms, c.Public = append(c.Terms, "rest"), append(c.Public, "rest")
		return c
	}
	freshLetters := func() []api.Mail {
		return []api.Mail{
			copied(mail("z", "law@ours.de", "zed@firm.de ann@firm.de ?", "over\n\ncourt\n"), "hal@aid.de bob@firm.de ?"),
			after(mail("y", "ann@firm.de", "law@ours.de", "x\n> over\n"), "z ?"),
			after(mail("x", "ann@firm.de", "all@firm.de zed@else.de", "y\n> legal advice\n"), "y"),
			{},
		}
	}
	c, l := freshCircle(), freshLetters()
	short := api.Circle{People: c.People[:4], Domains: c.Domains[:3], Terms: c.Terms[:5], Public: c.Public[:2]}
	l[0].To, l[0].Cc, l[1].Refs = l[0].To[:2], l[0].Cc[:2], l[1].Refs[:1]
	call(short, l[:3])
	l[0].To, l[0].Cc, l[1].Refs = l[0].To[:3], l[0].Cc[:3], l[1].Refs[:2]
	is(t, c, freshCircle())
	is(t, l, freshLetters())
}

// Spans.

// spans are those of a string: of numbers, two for each.
func spans(s string) []api.Span {
	var l []api.Span
	for i, word := range words(s) {
		n, _ := strconv.Atoi(word)
		if i%2 == 0 {
			l = append(l, api.Span{From: n})
		} else {
			l[len(l)-1].To = n
		}
	}
	return l
}

// manySpans are of one byte each, with one between.
func manySpans(many int) []api.Span {
	var l []api.Span
	for i := range many {
		l = append(l, api.Span{From: 2 * i, To: 2*i + 1})
	}
	return l
}

// maskOf says of each byte whether it is in spans.
func maskOf(l []api.Span, size int) []bool {
	mask := make([]bool, size)
	for _, s := range l {
		for i := s.From; i < s.To; i++ {
			mask[i] = true
		}
	}
	return mask
}

// spansOf returns the right spans of the bytes of a mask.
func spansOf(mask []bool) []api.Span {
	var l []api.Span
	for i := range mask {
		if mask[i] && (i == 0 || !mask[i-1]) {
			l = append(l, api.Span{From: i})
		}
		if mask[i] {
			l[len(l)-1].To = i + 1
		}
	}
	return l
}

// randomSpans are right for a size.
func randomSpans(r *rand.Rand, size int) []api.Span {
	mask := make([]bool, size)
	for i := range mask {
		mask[i] = r.IntN(3) == 0
		if i > 0 && r.IntN(2) == 0 {
			mask[i] = mask[i-1]
		}
	}
	return spansOf(mask)
}

// badSpans are spans with the errors of CheckSpans for a size of at least 9 bytes, in the order of the document.
func badSpans(size int) []struct {
	e api.Errno
	l []api.Span
} {
	large := manySpans(api.MaxSpans + 1)
	large[1] = api.Span{}
	return []struct {
		e api.Errno
		l []api.Span
	}{
		{api.ErrLarge, large},
		{api.ErrArg, spans("-1 2")},
		{api.ErrArg, spans("2 2")},
		{api.ErrArg, spans("3 2")},
		{api.ErrArg, []api.Span{{From: 1, To: size + 1}}},
		{api.ErrArg, []api.Span{{From: math.MinInt, To: math.MaxInt}}},
		{api.ErrArg, []api.Span{{From: math.MaxInt, To: math.MinInt}}},
		{api.ErrArg, spans("3 4 0 0")},
		{api.ErrOrder, spans("3 4 4 5")},
		{api.ErrOrder, spans("3 4 1 2")},
		{api.ErrOrder, spans("3 4 3 5 0 0")},
		{api.ErrOrder, spans("3 6 5 8")},
		{api.ErrArg, spans("3 4 6 6 1 2")},
	}
}

// eachBadSpans calls a function with spans that CheckSpans does not accept for a size.
func eachBadSpans(t *testing.T, size int, call func(l []api.Span) (api.Errno, []any)) {
	t.Helper()
	for _, c := range badSpans(size) {
		e, results := call(c.l)
		fails(t, e, c.e, results...)
	}
}

// eachBadText calls a function with strings that are no texts, or too long.
func eachBadText(t *testing.T, call func(text string) (api.Errno, []any)) {
	t.Helper()
	for _, text := range []string{strings.Repeat("\n", api.MaxBody+1), strings.Repeat("x", api.MaxBody+1)} {
		e, results := call(text)
		fails(t, e, api.ErrLarge, results...)
	}
	for _, text := range []string{"x", "a\nb", "\t\n", "\r\n", "\x7f\n", "\xff\n", "\xc3\n"} {
		e, results := call(text)
		fails(t, e, api.ErrForm, results...)
	}
}

// Random things, of which much is equal.

func pick[T any](r *rand.Rand, l ...T) T { return l[r.IntN(len(l))] }

// someOf returns some of the words of a string, in any order, at most so many.
func someOf(r *rand.Rand, s string, most int) []string {
	l := words(s)
	r.Shuffle(len(l), func(i, k int) { l[i], l[k] = l[k], l[i] })
	return l[:min(r.IntN(most+1), len(l))]
}

// randomText is made of words, signs and letters of several bytes.
func randomText(r *rand.Rand, most int) string {
	text := ""
	for range r.IntN(most + 1) {
		text += pick(r, "a", "B", "ab", "memo", "Memo", "é", "Öl", "\U0001f600", " ", " ", "  ", "-", "\n", "7", "#")
	}
	if text != "" {
		text += "\n"
	}
	return text
}

func randomLetters(r *rand.Rand) []api.Mail {
	some := "ann@firm.de bob@firm.de law@ours.de hal@aid.de ann@firm.de bob@firm.de law@ours.de cy@else.de all@firm.de"
	var l []api.Mail
	for _, id := range someOf(r, "a b c d e f g", 7) {
		m := mail(id, pick(r, words(some)...), "", "")
		m.At = r.IntN(30)
		mails := slices.DeleteFunc(slices.Compact(slices.Sorted(slices.Values(someOf(r, some, 3)))), func(x string) bool { return x == m.From.Mail })
		m.To = people(strings.Join(mails, " "))
		m.Refs = slices.DeleteFunc(someOf(r, "a b c d e f g x", 2), func(x string) bool { return x == id })
		m.Subject = pick(r, "S", "Re: S", "Court", "")
		for range r.IntN(5) {
			m.Body += pick(r, "one", "two ", "> one", ">  two", "> > one", "legal", "advice", "> legal", "> advice", "legal advice", "> legal advice", "X wrote:", "> X wrote:", "", ">") + "\n"
		}
		l = append(l, m)
	}
	return l
}
