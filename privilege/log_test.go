package privilege_test

import (
	"math"
	"math/rand/v2"
	"slices"
	"strings"
	"testing"

	"paperchase/api"
	"paperchase/privilege"
)

func row(no int, id string) api.LogRow {
	return api.LogRow{No: no, Id: id, At: 10, From: "law@ours.de", To: words("ann@firm.de bob@firm.de"), Kind: api.CallFull, About: "advice from lawyer to client, other"}
}

func manyRows(many int) []api.LogRow {
	var l []api.LogRow
	for i, id := range names("m", many) {
		l = append(l, row(i+1, id))
	}
	return l
}

// P7.8
func TestCheckRows(t *testing.T) {
	few, most, part := row(1, "!"), row(2, strings.Repeat("~", 80)), row(3, "z")
	few.At, few.To, few.About = 0, nil, "x"
	most.At, most.To, most.About = api.End-1, addresses(api.MaxParties), strings.Repeat("é", 150)
	part.Kind, part.Spans = api.CallPart, 1
	all := row(4, "a")
	all.Kind, all.Spans, all.To = api.CallPart, api.MaxSpans, words("law@ours.de")
	for _, l := range [][]api.LogRow{nil, {few}, {few, most, part, all}, manyRows(api.MaxItems)} {
		is(t, privilege.CheckRows(l), api.OK)
	}
	is(t, privilege.CheckRows(manyRows(api.MaxItems+1)), api.ErrLarge)
	eachBadRows(t, func(l []api.LogRow) (api.Errno, []any) { return privilege.CheckRows(l), nil })
	eachBadRise(t, api.MaxParties, "a@b.de", "b@b.de", func(to []string) (api.Errno, []any) {
		x := row(1, "a")
		x.To, x.Kind = to, api.CallNone
		return privilege.CheckRows([]api.LogRow{x}), nil
	})
}

// eachBadRows calls a function with rows that CheckRows does not accept.
func eachBadRows(t *testing.T, call func(l []api.LogRow) (api.Errno, []any)) {
	t.Helper()
	bad := func(want api.Errno, spoil func(x *api.LogRow)) {
		t.Helper()
		x := row(2, "b")
		spoil(&x)
		e, results := call([]api.LogRow{row(1, "a"), x, row(3, "c")})
		fails(t, e, want, results...)
	}
	for _, no := range []int{0, 1, 3, -2, math.MinInt, math.MaxInt} {
		bad(api.ErrArg, func(x *api.LogRow) { x.No = no })
	}
	for _, id := range []string{"", "a b", "<a>", "é", "a\n", strings.Repeat("x", 81)} {
		bad(api.ErrForm, func(x *api.LogRow) { x.Id = id })
	}
	bad(api.ErrTwice, func(x *api.LogRow) { x.Id = "a" })
	for _, at := range badMoments() {
		bad(api.ErrArg, func(x *api.LogRow) { x.At = at })
	}
	for _, from := range []string{"", "-", "law", "Law@ours.de", "law@ours.de "} {
		bad(api.ErrForm, func(x *api.LogRow) { x.From = from })
		bad(api.ErrForm, func(x *api.LogRow) { x.To = []string{from} })
	}
	bad(api.ErrLarge, func(x *api.LogRow) { x.To = addresses(api.MaxParties + 1) })
	bad(api.ErrOrder, func(x *api.LogRow) { x.To = words("a@b.de a@b.de") })
	bad(api.ErrOrder, func(x *api.LogRow) { x.To = words("b@b.de a@b.de") })
	for _, kind := range []int{api.CallNone, 0, 4, -1, math.MinInt, math.MaxInt} {
		bad(api.ErrKind, func(x *api.LogRow) { x.Kind = kind })
	}
	for _, about := range []string{"", " ", "a ", " a", "a  b", "a\n", "a\nb", "\t", "\x7f", "\xff", strings.Repeat("x", 301), strings.Repeat("é", 150) + "x"} {
		bad(api.ErrForm, func(x *api.LogRow) { x.About = about })
	}
	for _, many := range []int{1, -1, math.MinInt, math.MaxInt} {
		bad(api.ErrArg, func(x *api.LogRow) { x.Spans = many })
	}
	for _, many := range []int{0, -1, api.MaxSpans + 1, math.MinInt, math.MaxInt} {
		bad(api.ErrArg, func(x *api.LogRow) { x.Kind, x.Spans = api.CallPart, many })
	}
	e, results := call(manyRows(api.MaxItems + 1))
	fails(t, e, api.ErrLarge, results...)
}

// P7.8: of several errors the first one of the list, row by row.
func TestCheckRowsOrder(t *testing.T) {
	l := make([]api.LogRow, api.MaxItems+1)
	l[0] = row(1, "a")
	x := &l[1]
	x.At, x.To, x.Spans = -1, make([]string, api.MaxParties+1), 1
	for _, s := range []step{
		{api.ErrLarge, func() {}},
		{api.ErrArg, func() { l = l[:3] }},
		{api.ErrForm, func() { x.No = 2 }},
		{api.ErrTwice, func() { x.Id = "a" }},
		{api.ErrArg, func() { x.Id = "b" }},
		{api.ErrForm, func() { x.At = 0 }},
		{api.ErrLarge, func() { x.From = "a@b.de" }},
		{api.ErrForm, func() { x.To = words("b@b.de x a@b.de") }},
		{api.ErrOrder, func() { x.To = words("b@b.de a@b.de x") }},
		{api.ErrKind, func() { x.To = nil }},
		{api.ErrForm, func() { x.Kind = api.CallFull }},
		{api.ErrArg, func() { x.About = "x" }},
		{api.ErrArg, func() { x.Spans = 0 }}, // the third one
		{api.OK, func() { l = l[:2] }},
	} {
		s.mend()
		is(t, privilege.CheckRows(l), s.e)
	}
}

// P7.8
func TestDescribe(t *testing.T) {
	for _, c := range []struct {
		m    api.Mail
		want string
	}{
		{good(), "request from client to lawyer re legal advice"},
		{mail("a", "law@ours.de", "ann@firm.de", ""), "advice from lawyer to client"},
		{mail("a", "law@ours.de", "", ""), "advice from lawyer to nobody"},
		{mail("a", "hal@aid.de", "bob@firm.de", "lunch\n"), "advice from helper to other"},
		{about(mail("a", "bob@firm.de", "hal@aid.de", ""), "Court"), "request from other to helper re court"},
		{copied(mail("a", "law@ours.de", "bob@firm.de hal@aid.de cy@firm.de", ""), "ann@firm.de lee@ours.de"), "advice from lawyer to lawyer, client, helper, other"},
		{copied(mail("a", "law@ours.de", "", ""), "bob@firm.de"), "advice from lawyer to other"},
		{mail("a", "law@ours.de", "law@ours.de", ""), "advice from lawyer to lawyer"},
		{mail("a", "ann@firm.de", "law@ours.de", "see\n> SECRET\n"), "request from client to lawyer re secret"}, // also what is quoted
		{about(mail("a", "ann@firm.de", "law@ours.de", "secret court\n"), "4711"), "request from client to lawyer re 4711, court, secret"},
		{about(mail("a", "ann@firm.de", "law@ours.de", "court\n"), "secret Court"), "request from client to lawyer re court, secret"},
		{about(mail("a", "ann@firm.de", "law@ours.de", "über Recht, legal advice, court\n"), "secret 4711"), "request from client to lawyer re 4711, court, legal advice"},
		{about(mail("a", "law@ours.de", "", "advice\n"), "legal"), "advice from lawyer to nobody"},
		{mail("a", "ann@firm.de", "law@ours.de", "court legal\n> advice\n"), "request from client to lawyer re court, legal advice"},
	} {
		got, e := privilege.Describe(circle(), c.m)
		gives(t, got, e, c.want)
	}
	for _, m := range []api.Mail{
		mail("a", "ann@firm.de", "law@ours.de", "lunch\n"),
		mail("a", "ann@firm.de", "bob@firm.de", "court\n"),
		mail("a", "law@ours.de", "all@firm.de", "court\n"),
		mail("a", "law@ours.de", "cy@else.de", "court\n"),
	} {
		got, e := privilege.Describe(circle(), m)
		fails(t, e, api.ErrState, got)
	}
	eachBadCircle(t, func(c api.Circle) (api.Errno, []any) {
		got, e := privilege.Describe(c, api.Mail{Id: "a", At: -1})
		return e, []any{got}
	})
	eachBadLetter(t, func(m api.Mail) (api.Errno, []any) {
		got, e := privilege.Describe(circle(), m)
		return e, []any{got}
	})
}

// P7.8: the longest terms.
func TestDescribeLong(t *testing.T) {
	c := circle()
	c.Terms = nil
	for _, s := range []string{"é", "ö", "ü"} {
		c.Terms = append(c.Terms, strings.Repeat(s, 30))
	}
	m := copied(mail("a", "law@ours.de", "bob@firm.de hal@aid.de", strings.Join(c.Terms, "\n")+"\n"), "ann@firm.de lee@ours.de")
	got, e := privilege.Describe(c, m)
	gives(t, got, e, "advice from lawyer to lawyer, client, helper, other re "+strings.Join(c.Terms, ", "))
	rows, e := privilege.Log(c, []api.Mail{m}, nil)
	is(t, []any{rows[0].About, e, privilege.CheckRows(rows)}, []any{got, api.OK, api.OK})
}

// logged are letters with one of each kind.
func logged() []api.Mail {
	return []api.Mail{
		at(mail("part", "ann@firm.de", "law@ours.de", "see\n> court\n"), 5),
		at(copied(mail("full", "law@ours.de", "bob@firm.de ann@firm.de", ""), "abe@firm.de hal@aid.de"), 7),
		at(mail("out", "law@ours.de", "cy@else.de", "court\n"), 1),
		at(mail("b", "hal@aid.de", "", "court court\n"), 5),
		at(mail("other", "ann@firm.de", "law@ours.de", "> secret\n> x\n"), 2),
		at(mail("lunch", "ann@firm.de", "law@ours.de", "lunch\n"), 0),
	}
}

// P7.8
func TestLog(t *testing.T) {
	b := api.LogRow{Id: "b", At: 5, From: "hal@aid.de", Kind: api.CallFull, About: "advice from helper to nobody re court"}
	part := api.LogRow{Id: "part", At: 5, From: "ann@firm.de", To: words("law@ours.de"), Kind: api.CallPart, About: "request from client to lawyer re court", Spans: 2}
	full := api.LogRow{Id: "full", At: 7, From: "law@ours.de", To: words("abe@firm.de ann@firm.de bob@firm.de hal@aid.de"), Kind: api.CallFull, About: "advice from lawyer to client, helper, other"}
	other := api.LogRow{Id: "other", At: 2, From: "ann@firm.de", To: words("law@ours.de"), Kind: api.CallPart, About: "request from client to lawyer re secret", Spans: 1}
	for _, c := range []struct {
		cover []api.Cover
		want  []api.LogRow
	}{
		{nil, []api.LogRow{b, full}},
		{[]api.Cover{{Id: "part", Spans: spans("4 5 6 11")}}, []api.LogRow{b, part, full}},
		{[]api.Cover{{Id: "other", Spans: spans("0 13")}, {Id: "part"}}, []api.LogRow{other, b, full}},
		{[]api.Cover{{Id: "other", Spans: spans("0 13")}, {Id: "part", Spans: spans("0 1 2 3")}}, []api.LogRow{other, b, part, full}},
		{[]api.Cover{{Id: "b", Spans: spans("0 1 2 3")}, {Id: "full"}, {Id: "lunch", Spans: spans("0 1")}, {Id: "out", Spans: spans("0 6")}}, []api.LogRow{b, full}},
	} {
		for i := range c.want {
			c.want[i].No = i + 1
		}
		got, e := privilege.Log(circle(), logged(), c.cover)
		is(t, e, api.OK)
		is(t, len(got), len(c.want))
		for i, x := range got {
			is(t, len(x.To) == 0, len(c.want[i].To) == 0)
			if len(x.To) == 0 {
				x.To = nil
			}
			is(t, x, c.want[i])
		}
		is(t, privilege.CheckRows(got), api.OK)
	}
	got, e := privilege.Log(circle(), nil, nil)
	gives(t, got, e, []api.LogRow{})
	got, e = privilege.Log(circle(), manyLetters(api.MaxItems), nil)
	is(t, []any{len(got), e, privilege.CheckRows(got)}, []any{api.MaxItems, api.OK, api.OK})
	most := manySpans(api.MaxSpans)
	long := mail("a", "ann@firm.de", "law@ours.de", "> court\n"+strings.Repeat("x\n", api.MaxSpans))
	got, e = privilege.Log(circle(), []api.Mail{long}, []api.Cover{{Id: "a", Spans: most}})
	is(t, []any{len(got), got[0].Spans, e}, []any{1, api.MaxSpans, api.OK})
}

// P7.8
func TestLogErrors(t *testing.T) {
	eachBadCircle(t, func(c api.Circle) (api.Errno, []any) {
		got, e := privilege.Log(c, []api.Mail{{Id: "a", At: -1}}, []api.Cover{{}})
		return e, []any{got}
	})
	eachBadList(t, func(l []api.Mail) (api.Errno, []any) {
		got, e := privilege.Log(circle(), l, []api.Cover{{}})
		return e, []any{got}
	})
	for _, c := range []struct {
		e     api.Errno
		cover []api.Cover
	}{
		{api.ErrNone, []api.Cover{{}}},
		{api.ErrNone, []api.Cover{{Id: "b"}, {Id: "a", Spans: spans("0 0")}}},
		{api.ErrNone, []api.Cover{{Id: "b"}, {Id: "part", Spans: spans("0 1")}, {Id: "Part"}}},
		{api.ErrOrder, []api.Cover{{Id: "b"}, {Id: "b", Spans: spans("0 0")}}},
		{api.ErrOrder, []api.Cover{{Id: "part"}, {Id: "b"}, {Id: "zed"}}},
		{api.ErrArg, []api.Cover{{Id: "b", Spans: spans("0 0")}, {Id: "b"}}},
		{api.ErrArg, []api.Cover{{Id: "lunch", Spans: spans("0 7")}}},
		{api.ErrArg, []api.Cover{{Id: "full", Spans: spans("0 1")}}}, // it has no bytes
		{api.ErrOrder, []api.Cover{{Id: "b", Spans: spans("0 2 2 3")}}},
		{api.ErrLarge, []api.Cover{{Id: "b", Spans: manySpans(api.MaxSpans + 1)}}},
	} {
		got, e := privilege.Log(circle(), logged(), c.cover)
		fails(t, e, c.e, got)
	}
	for _, c := range badSpans(len("see\n> court\n")) {
		got, e := privilege.Log(circle(), logged(), []api.Cover{{Id: "part", Spans: c.l}, {}})
		fails(t, e, c.e, got)
	}
}

// P7.8, P7.9: the log has what is withheld, and is read as it is written.
func TestLogRandom(t *testing.T) {
	r := rand.New(rand.NewPCG(7, 8))
	many := 0
	for range 3_000 {
		l := randomLetters(r)
		var cover []api.Cover
		spansOfId := map[string]int{}
		for _, m := range l {
			if r.IntN(2) == 0 {
				x := api.Cover{Id: m.Id, Spans: randomSpans(r, len(m.Body))}
				cover = append(cover, x)
				spansOfId[m.Id] = len(x.Spans)
			}
		}
		slices.SortFunc(cover, func(a, b api.Cover) int { return strings.Compare(a.Id, b.Id) })
		var want []api.LogRow
		slices.SortFunc(l, func(a, b api.Mail) int {
			if a.At != b.At {
				return a.At - b.At
			}
			return strings.Compare(a.Id, b.Id)
		})
		for _, m := range l {
			x := api.LogRow{No: len(want) + 1, Id: m.Id, At: m.At, From: m.From.Mail, Kind: callOf(t, circle(), m).Kind}
			if x.Kind == api.CallPart {
				x.Spans = spansOfId[m.Id]
			}
			if x.Kind == api.CallNone || x.Kind == api.CallPart && x.Spans == 0 {
				continue
			}
			for _, a := range m.To {
				x.To = append(x.To, a.Mail)
			}
			slices.Sort(x.To)
			x.About, _ = privilege.Describe(circle(), m)
			want = append(want, x)
		}
		r.Shuffle(len(l), func(i, k int) { l[i], l[k] = l[k], l[i] })
		got, e := privilege.Log(circle(), l, cover)
		gives(t, got, e, want)
		is(t, privilege.CheckRows(got), api.OK)
		text, e := privilege.PrintLog(got)
		is(t, e, api.OK)
		back, at, e := privilege.ParseLog(text)
		gives(t, back, e, want)
		is(t, at, 0)
		many += len(want)
	}
	if many < 1_000 {
		t.Errorf("only %d rows", many)
	}
}

// Z2
func TestLogKeeps(t *testing.T) {
	keepsCircle(t, func(c api.Circle, l []api.Mail) {
		fresh := []api.Cover{{Id: "x", Spans: spans("0 1 3 4 9 99")}, {Id: "y", Spans: spans("2 3")}, {Id: "?"}}
		cover := []api.Cover{{Id: "x", Spans: spans("0 1 3 4 9 99")}, {Id: "y", Spans: spans("2 3")}, {Id: "?"}}
		cover[0].Spans = cover[0].Spans[:2]
		got, e := privilege.Log(c, l, cover[:2])
		is(t, e, api.OK)
		is(t, got[0].To, words("ann@firm.de bob@firm.de hal@aid.de zed@firm.de"))
		got[0].To[0] = "?"
		got[0].To = append(got[0].To, "?")
		cover[0].Spans = cover[0].Spans[:3]
		is(t, cover, fresh)
	})
}
