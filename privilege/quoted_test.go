package privilege_test

import (
	"math"
	"math/rand/v2"
	"slices"
	"strings"
	"testing"

	"paperchase/api"
	"paperchase/privilege"
	"paperchase/thread"
)

// advice is a letter that is privileged as a whole.
func advice(id, body string) api.Mail { return mail(id, "law@ours.de", "ann@firm.de", body) }

// away is a letter that others get, after some letters.
func away(id, refs, body string) api.Mail {
	return after(mail(id, "ann@firm.de", "cy@else.de", body), refs)
}

// P7.4
func TestWaived(t *testing.T) {
	for what, c := range map[string]struct {
		l    []api.Mail
		want string
	}{
		"none":             {nil, ""},
		"alone":            {[]api.Mail{advice("a", "x\n")}, ""},
		"quoted outside":   {[]api.Mail{advice("a", "x\n"), away("b", "a", "see\n> x\n")}, "a"},
		"in public":        {[]api.Mail{advice("a", "x\n"), after(mail("b", "law@ours.de", "all@firm.de", "X\n"), "a")}, "a"},
		"a part alone":     {[]api.Mail{advice("a", "x\n\ny\n"), away("b", "a", "> x\n")}, ""},
		"each one a part":  {[]api.Mail{advice("a", "x\n\ny\n"), away("b", "a", "> x\n"), away("c", "a", "> y\n")}, ""},
		"both parts":       {[]api.Mail{advice("a", "x\n\ny\n"), away("b", "a", "> y\n>\n> x\n")}, "a"},
		"another thread":   {[]api.Mail{advice("a", "x\n"), away("b", "", "x\n")}, ""},
		"below both":       {[]api.Mail{advice("a", "x\n"), away("b", "", "x\n"), after(mail("c", "ann@firm.de", "bob@firm.de", ""), "a b")}, "a"},
		"without words":    {[]api.Mail{advice("a", ""), away("b", "a", "y\n")}, "a"},
		"words that miss":  {[]api.Mail{advice("a", "x\n"), away("b", "a", "")}, ""},
		"in part":          {[]api.Mail{mail("a", "ann@firm.de", "law@ours.de", "> court\n"), away("b", "a", "Court\n")}, "a"},
		"business":         {[]api.Mail{mail("a", "ann@firm.de", "law@ours.de", "x\n"), away("b", "a", "x\n")}, ""},
		"without a lawyer": {[]api.Mail{advice("a", "x\n"), after(mail("b", "ann@firm.de", "bob@firm.de", "x\n"), "a")}, ""},
		"to a lawyer":      {[]api.Mail{advice("a", "x\n"), after(mail("b", "ann@firm.de", "law@ours.de", "x\n"), "a")}, ""},
		"two privileged":   {[]api.Mail{advice("a", "x\n"), after(advice("b", "x\n"), "a")}, ""},
		"itself outside":   {[]api.Mail{away("a", "", "x\n"), away("b", "a", "x\n")}, ""},
		"sorted":           {[]api.Mail{at(advice("c", "x\n"), 3), at(advice("a", "y\n"), 9), after(at(advice("d", "y\n"), 9), "a"), away("b", "c", "> x\n"), away("e", "a", "> y\n"), at(advice("f", "z\n"), 0)}, "a c d"},
	} {
		t.Run(what, func(t *testing.T) {
			got, e := privilege.Waived(circle(), c.l, 0)
			gives(t, got, e, words(c.want))
		})
	}
}

// P7.4: threads depend on how many minutes are between letters.
func TestWaivedWithin(t *testing.T) {
	l := []api.Mail{advice("a", "x\n"), at(about(away("b", "", "x\n"), "Re: S"), 25)}
	for within, want := range map[int]string{0: "", 14: "", 15: "a", api.End: "a"} {
		got, e := privilege.Waived(circle(), l, within)
		gives(t, got, e, words(want))
		places, e := privilege.Quoted(circle(), []api.Mail{l[0], at(about(mail("b", "ann@firm.de", "bob@firm.de", "> x\n"), "Re: S"), 25)}, within, "b")
		if want == "" {
			gives(t, places, e, []api.Span{})
		} else {
			gives(t, places, e, spans("0 3"))
		}
	}
	for _, within := range []int{-1, api.End + 1, math.MinInt, math.MaxInt} {
		got, e := privilege.Waived(circle(), l, within)
		fails(t, e, api.ErrArg, got)
		places, e := privilege.Quoted(circle(), l, within, "zed")
		fails(t, e, api.ErrArg, places)
	}
}

// P7.4, P7.7
func TestWaivedErrors(t *testing.T) {
	eachBadCircle(t, func(c api.Circle) (api.Errno, []any) {
		got, e := privilege.Waived(c, []api.Mail{{Id: "a", At: -1}}, -1)
		return e, []any{got}
	})
	eachBadList(t, func(l []api.Mail) (api.Errno, []any) {
		got, e := privilege.Waived(circle(), l, -1)
		return e, []any{got}
	})
	eachBadCircle(t, func(c api.Circle) (api.Errno, []any) {
		got, e := privilege.Quoted(c, []api.Mail{{Id: "a", At: -1}}, -1, "b")
		return e, []any{got}
	})
	eachBadList(t, func(l []api.Mail) (api.Errno, []any) {
		got, e := privilege.Quoted(circle(), l, -1, "b")
		return e, []any{got}
	})
}

// P7.7
func TestQuoted(t *testing.T) {
	to := func(body string) api.Mail { return after(mail("b", "ann@firm.de", "bob@firm.de", body), "a") }
	for _, c := range []struct{ own, body, want string }{
		{"be careful\n", "", ""},
		{"be careful\n", "see\n> be careful\n", "4 16"},
		{"be careful\n", "see\n>be careful\n", "4 15"},
		{"be careful\n", "be careful\n", ""}, // not a quote
		{"be careful\n", "> Be careful\n> be  careful\n> be care\n> be careful!\n", ""},
		{"be careful\n", ">  be careful \n", "0 14"}, // but for blanks at the ends
		{"  be careful  \n", "> be careful\n", "0 12"},
		{"be careful\n", "> > be careful\n>>> be careful\n", "0 14 15 29"},
		{"x\ny\n\nz\n", "> x\n>\n> y\n> u\n> z\n", "0 3 6 9 14 17"},
		{"x\n\ny\n", ">\n> \n>  \n> > \n", ""}, // nothing but blanks
		{"x\n> y\n", "> x\n> y\n", "0 3"},      // not what it quotes itself
		{"x\nx\n", "> x\n> x\n", "0 3 4 7"},
		{"> x\n", "> x\n", ""},
		{"Ann wrote:\nx\n", "Ann wrote:\n> x\n", "0 10 11 14"}, // it has the Depth of the line after it
		{"Ann wrote:\nx\n", "Ann wrote:\nx\n", ""},
		{"", "> x\n", ""},
	} {
		got, e := privilege.Quoted(circle(), []api.Mail{advice("a", c.own), to(c.body)}, 0, "b")
		gives(t, got, e, spans(c.want))
	}
	body := "> one\n> two\n> three\n> four\n"
	for what, c := range map[string]struct {
		l    []api.Mail
		want string
	}{
		"of two letters":        {[]api.Mail{advice("a", "one\n"), advice("c", "three\n"), after(to(body), "a c")}, "0 5 12 19"},
		"of a waived one":       {[]api.Mail{advice("a", "one\n"), away("c", "a", "one\n"), to(body)}, ""},
		"of one that is not":    {[]api.Mail{advice("a", "one\n"), after(advice("d", "two\n"), "a"), away("c", "a", "one\n"), to(body)}, "6 11"},
		"given away by it":      {[]api.Mail{advice("a", "one\n"), away("b", "a", "> one\n>\n> two\n")}, ""},
		"outside, but in part":  {[]api.Mail{advice("a", "one\n\nfive\n"), away("b", "a", body)}, "0 5"},
		"of one in part":        {[]api.Mail{mail("a", "ann@firm.de", "law@ours.de", "one\n> court\n"), to(body)}, ""},
		"of business":           {[]api.Mail{mail("a", "ann@firm.de", "law@ours.de", "one\n"), to(body)}, ""},
		"of one without lawyer": {[]api.Mail{mail("a", "ann@firm.de", "bob@firm.de", "one\n"), to(body)}, ""},
		"another thread":        {[]api.Mail{advice("a", "one\n"), after(to(body), "")}, ""},
		"alone":                 {[]api.Mail{to(body)}, ""},
		"of a later one":        {[]api.Mail{at(advice("a", "four\n"), 99), to(body)}, "20 26"},
		"a privileged one":      {[]api.Mail{advice("a", "two\n"), after(advice("b", "four\n"+body), "a")}, "11 16 25 31"}, // also of itself
	} {
		t.Run(what, func(t *testing.T) {
			got, e := privilege.Quoted(circle(), c.l, 0, "b")
			gives(t, got, e, spans(c.want))
		})
	}
}

// P7.7
func TestQuotedErrors(t *testing.T) {
	for _, id := range []string{"", "b", "A", "m000001 "} {
		got, e := privilege.Quoted(circle(), manyLetters(2), 0, id)
		fails(t, e, api.ErrNone, got)
	}
	got, e := privilege.Quoted(circle(), []api.Mail{away("b", "a", "x\n")}, 0, "a") // only Refs have it
	fails(t, e, api.ErrNone, got)
	for many, want := range map[int]api.Errno{api.MaxSpans: api.OK, api.MaxSpans + 1: api.ErrLarge} {
		l := []api.Mail{advice("a", "x\n"), after(mail("b", "ann@firm.de", "bob@firm.de", strings.Repeat("> x\n", many)), "a")}
		got, e := privilege.Quoted(circle(), l, 0, "b")
		if want != api.OK {
			fails(t, e, want, got)
		} else {
			is(t, []any{len(got), got[1], e}, []any{many, api.Span{From: 4, To: 7}, api.OK})
		}
	}
}

// waivedOf says word by word which letters are waived, and of which thread each one is.
func waivedOf(t *testing.T, l []api.Mail, within int) ([]string, map[string]int) {
	threads, e := thread.Threads(l, within)
	is(t, e, api.OK)
	number := map[string]int{}
	for n, x := range threads {
		for _, id := range x.Ids {
			number[id] = n
		}
	}
	var waived []string
	for _, a := range l {
		if callOf(t, circle(), a).Kind == api.CallNone {
			continue
		}
		gone := slices.ContainsFunc(l, func(b api.Mail) bool {
			covers, e := thread.Covers(b, a)
			is(t, e, api.OK)
			why := callOf(t, circle(), b).Why
			return covers && number[a.Id] == number[b.Id] && (why == api.WhyPublic || why == api.WhyOutside)
		})
		if gone {
			waived = append(waived, a.Id)
		}
	}
	slices.Sort(waived)
	return waived, number
}

// P7.4, P7.7: Waived and Quoted are as the document's words say, in whatever order letters come.
func TestQuotedRandom(t *testing.T) {
	r := rand.New(rand.NewPCG(7, 7))
	manyWaived, manyQuoted := 0, 0
	for range 3_000 {
		l := randomLetters(r)
		within := r.IntN(20)
		want, number := waivedOf(t, l, within)
		got, e := privilege.Waived(circle(), l, within)
		gives(t, got, e, want)
		manyWaived += len(want)
		mixed := slices.Clone(l)
		r.Shuffle(len(mixed), func(i, k int) { mixed[i], mixed[k] = mixed[k], mixed[i] })
		got, e = privilege.Waived(circle(), mixed, within)
		gives(t, got, e, want)
		for _, m := range l {
			secret := map[string]bool{}
			for _, x := range l {
				if number[x.Id] == number[m.Id] && callOf(t, circle(), x).Kind == api.CallFull && !slices.Contains(want, x.Id) {
					own, _ := thread.Own(x.Body)
					for _, line := range strings.Split(own, "\n") {
						secret[strings.Trim(line, " ")] = true
					}
				}
			}
			var places []api.Span
			lines, _ := thread.Lines(m.Body)
			from := 0
			for i, line := range strings.SplitAfter(m.Body, "\n") {
				if i < len(lines) && lines[i].Depth > 0 && strings.Trim(lines[i].Text, " ") != "" && secret[strings.Trim(lines[i].Text, " ")] {
					places = append(places, api.Span{From: from, To: from + len(line) - 1})
				}
				from += len(line)
			}
			got, e := privilege.Quoted(circle(), mixed, within, m.Id)
			gives(t, got, e, places)
			is(t, privilege.CheckSpans(got, len(m.Body)), api.OK)
			manyQuoted += len(places)
		}
	}
	if manyWaived < 300 || manyQuoted < 500 {
		t.Errorf("only %d waived and %d quoted", manyWaived, manyQuoted)
	}
}

// Z2
func TestQuotedKeeps(t *testing.T) {
	keepsCircle(t, func(c api.Circle, l []api.Mail) {
		got, e := privilege.Waived(c, l, 0)
		gives(t, got, e, []string{})
		l[1].To = people("bob@firm.de")
		places, e := privilege.Quoted(c, l, 0, "y")
		gives(t, places, e, spans("2 8"))
		places[0] = api.Span{}
		l[1].To = people("law@ours.de")
	})
}

// P7.4: a long conversation with letters of many paragraphs.
func TestWaivedLarge(t *testing.T) {
	l := manyLetters(api.MaxItems)
	for i := range l {
		l[i].Refs = words("m")
		l[i].Body = strings.Join(names("p", 26), "\n\n") + "\n\n" + l[i].Id + "\n"
		if i%2 == 0 {
			l[i].To = people("cy@else.de")
		}
	}
	l[1].Body = l[0].Body
	got, e := privilege.Waived(circle(), l, 0)
	gives(t, got, e, []string{l[1].Id})
}
