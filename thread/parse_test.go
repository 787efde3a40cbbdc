package thread_test

import (
	"math/rand/v2"
	"strings"
	"testing"

	"paperchase/api"
	"paperchase/thread"
)

const head = "From: ann@b.de\nDate: Mon, 1 Jan 2024 01:40 +0000\nMessage-Id: <a>\n"

// P2.4
func TestPrint(t *testing.T) {
	s, e := thread.Print(full())
	is(t, []any{s, e}, []any{"From: Ann Lee <ann@b.de>\nTo: bo@b.de, cy@b.de\nCc: di@b.de\nDate: Mon, 1 Jan 2024 01:40 +0000\nMessage-Id: <id@x>\nReferences: <r1> <r2>\nSubject: Hi\n\none\n", api.OK})
	s, e = thread.Print(api.Mail{Id: "a", At: 100, From: people("ann")[0]})
	is(t, []any{s, e}, []any{head + "\n", api.OK})
	m := full()
	m.To, m.Refs, m.Subject, m.Body = nil, nil, "", "\nFrom: x\n"
	s, e = thread.Print(m)
	is(t, []any{s, e}, []any{"From: Ann Lee <ann@b.de>\nCc: di@b.de\nDate: Mon, 1 Jan 2024 01:40 +0000\nMessage-Id: <id@x>\n\n\nFrom: x\n", api.OK})
	keepsArguments(t, func(l []api.Mail) { thread.Print(l[0]) })
}

// P2.4: Parse of Print of the greatest letter.
func TestPrintLargest(t *testing.T) {
	m := api.Mail{Id: xs(80), At: api.End - 1, From: api.Address{Name: xs(60), Mail: "a@b.de"}, Refs: names("r", api.MaxRefs), Subject: xs(200), Body: strings.Repeat("x\n", api.MaxBody/2)}
	for _, a := range addresses(xs(33), api.MaxParties) {
		m.To = append(m.To, api.Address{Name: xs(60), Mail: strings.TrimSuffix(a.Mail, "b.de") + xs(30) + "." + xs(7)})
	}
	s, e := thread.Print(m)
	is(t, e, api.OK)
	back, line, e := thread.Parse(s)
	is(t, []any{back, line, e}, []any{m, 0, api.OK})
}

// tidy makes empty lists nil (Z5).
func tidy(m api.Mail) api.Mail {
	m.To = append([]api.Address(nil), m.To...)
	m.Cc = append([]api.Address(nil), m.Cc...)
	m.Refs = append([]string(nil), m.Refs...)
	return m
}

func expectParse(t *testing.T, text string, want api.Mail) {
	t.Helper()
	m, line, e := thread.Parse(text)
	is(t, []any{line, e}, []any{0, api.OK})
	is(t, tidy(m), tidy(want))
}

// P2.4
func TestParse(t *testing.T) {
	least := api.Mail{Id: "a", At: 100, From: people("ann")[0]}
	expectParse(t, head, least)
	expectParse(t, head+"\n", least)
	expectParse(t, "from:ann@b.de\nDATE:   Mon, 1 Jan 2024 02:40 +0100\nMESSAGE-ID:<a>\nTo:\nCc: ;,\nSubject:\nX-Other:\n-:\nazAZ-: y\nx--X: y: z\n\n", least)
	body := least
	body.Body = "\n From: bo@b.de\nno header\n"
	expectParse(t, head+"\n"+body.Body, body)
	subject := least
	subject.Subject = "Hi: you é"
	expectParse(t, head+"Subject:   Hi:  you   é  \n", subject)
	same := least
	same.To, same.Cc = people("bo cy"), people("ann")
	expectParse(t, head+"Cc: cy@b.de; Bo <bo@b.de>, ann@b.de\nTo: bo@b.de, cy@b.de, bo@b.de\n", same)
	same.To, same.Cc = people("cy bo"), nil
	expectParse(t, "To: cy@b.de,bo@b.de\nCc: Bo <bo@b.de>\n"+head, same)
}

// P2.4: lines that continue others.
func TestParseFolded(t *testing.T) {
	m := full()
	expectParse(t, "From:\n   Ann Lee  \n <ann@b.de>  \nTo: bo@b.de,\n cy@b.de\nCc:di@b.de\n \n   \nDate:\n Mon, 1 Jan\n     2024\n 01:40 +0000\nMessage-Id:  \n  <id@x>\nReferences:\n <r1>\n  <r2>\nX:\n  y\n z:\nSubject:\n  Hi\n \n\none\n", m)
	m.Subject = "a b: c"
	expectParse(t, "Subject: a \n  b: \n \n   c\nFrom: Ann Lee\n <ann@b.de>\nTo: bo@b.de\n ,cy@b.de\nCc: \n di@b.de\nDate: Mon, 1 Jan 2024 01:40 +0000\nMessage-Id: <id@x>\nReferences: <r1>\n <r2>\n\none\n", m)
	long := api.Mail{Id: "a", At: 100, From: people("ann")[0]}
	expectParse(t, head+"X: y\n"+strings.Repeat(" \n", 99_000), long)
}

// P2.4: of several headers with one name the first one is looked at.
func TestParseFirst(t *testing.T) {
	m := api.Mail{Id: "a", At: 100, From: people("ann")[0], To: people("bo"), Refs: words("r"), Subject: "Hi"}
	expectParse(t, head+"To: bo@b.de\nReferences: <r>\nSubject: Hi\nTO: cy@b.de\nfrom: ?\nDATE: ?\nmessage-id: <b>\nreferences: ?\nsubject: Ho\nSubject: Hu\n  more\n", m)
	m.Refs = words("s")
	m.To, m.Subject = nil, ""
	expectParse(t, head+"In-Reply-To: <s>\nin-reply-to: <r>\nSubject:\nSubject: Ho\nTo: \nTo: cy@b.de\n", m)
}

// P2.4: In-Reply-To counts as the last one of Refs.
func TestParseRefs(t *testing.T) {
	for lines, want := range map[string]string{
		"References: <r>\n":                                   "r",
		"References: <r> <s>\nIn-Reply-To: <t>\n":             "r s t",
		"In-Reply-To: <t>\nReferences: <r> <s>\n":             "r s t",
		"In-Reply-To: <r>\nReferences: <r> <s>\n":             "r s",
		"References: <r> <s>\nin-reply-to:<s>\n":              "r s",
		"References: <r@x.y/z!>\nIn-Reply-To:\n <R@x.y/z!>\n": "r@x.y/z! R@x.y/z!",
	} {
		m, line, e := thread.Parse(head + lines)
		is(t, []any{line, e}, []any{0, api.OK})
		is(t, m.Refs, words(want))
	}
}

// P2.4
func TestParseSyntax(t *testing.T) {
	for _, c := range []struct {
		line int
		text string
	}{
		{0, " "},
		{0, " From: ann@b.de"},
		{0, "From"},
		{0, ": x"},
		{0, "From : ann@b.de"},
		{0, "Fr0m: ann@b.de"},
		{0, "From@: ann@b.de"},
		{0, "From[: ann@b.de"},
		{0, "From`: ann@b.de"},
		{0, "From{: ann@b.de"},
		{0, "Fröm: ann@b.de"},
		{0, xs(31) + ": y"},
		{1, xs(30) + ": y\nx_y: z"},
		{1, "x: y\nz"},
		{3, "x: y\n z\n  \nz"},
		{0, "From:"},
		{0, "From: ann"},
		{0, "From: ann@b.de, bo@b.de"},
		{0, "From:" + strings.Repeat(" ", 600) + "ann@b.de" + strings.Repeat(" ", 493)},
		{1, head[:15] + "To: bo\n cy@b.de"},
		{0, "To: \"bo@b.de\nz"},
		{1, "x:\nTo: " + strings.Repeat("a@b.de,", 101)},
		{1, "x:\nCc: ?"},
		{1, "x:\nCc: a@b.de" + strings.Repeat(",", 20_000)},
		{2, "x:\n y\nDate: Mon, 1 Jan 2024 00:00 +0000 \n z"},
		{0, "Date: Tue, 1 Jan 2024 00:00 +0000"},
		{0, "Date: Sun, 31 Dec 2023 00:00 +0000"},
		{0, "Date:"},
		{0, "Message-Id:"},
		{0, "Message-Id: a"},
		{0, "Message-Id: <>"},
		{0, "Message-Id: <a"},
		{0, "Message-Id: a>"},
		{0, "Message-Id: <a> "},
		{0, "Message-Id: <a>\n  "},
		{0, "Message-Id: <a> <b>"},
		{0, "Message-Id: <<a>>"},
		{0, "Message-Id: < a>"},
		{0, "Message-Id: <é>"},
		{0, "Message-Id: <" + xs(81) + ">"},
		{0, "In-Reply-To:"},
		{0, "In-Reply-To: <a> <b>"},
		{0, "In-Reply-To: a"},
		{0, "References:"},
		{0, "References: <a><b>"},
		{0, "References: <a>  <b>"},
		{0, "References: <a>\n \n <b>"},
		{0, "References: <a>, <b>"},
		{0, "References: <a> b"},
		{0, "References: <a> "},
		// the first line of a wrong header comes before a line without form
		{0, "From: ?\n ?\nTo: ?\n?"},
		{3, head + "To: ?\n ?\n?"},
		{3, head + "?\nTo: ?"},
		// before what is missing, and before Check
		{1, "x:\nx"},
		{4, head + "References: <a>\n?"},
	} {
		for _, end := range []string{"\n", "\n\nbody\n"} {
			m, line, e := thread.Parse(c.text + end)
			fails(t, e, api.ErrSyntax, m)
			if line != c.line {
				t.Errorf("%q: line %d, want %d", c.text, line, c.line)
			}
		}
	}
}

// P2.4
func TestParseNone(t *testing.T) {
	lines := strings.SplitAfter(head, "\n")
	for _, c := range []struct {
		line int
		text string
	}{
		{0, ""}, {0, "\n"}, {0, "\n" + head}, {1, "x:\n"}, {1, "x:\n\n" + head},
		{2, lines[0] + lines[1]}, {2, lines[0] + lines[2] + "\n\n"}, {2, lines[1] + lines[2] + "\n" + lines[0]},
		{4, lines[0] + lines[1] + "X:\nReferences: <a> <a>\n"},
	} {
		m, line, e := thread.Parse(c.text)
		fails(t, e, api.ErrNone, m)
		if line != c.line {
			t.Errorf("%q: line %d, want %d", c.text, line, c.line)
		}
	}
}

// P2.4
func TestParseErrors(t *testing.T) {
	many := strings.ReplaceAll(strings.Join(names("p", 60), "@b.de,"), "\n", "") + "@b.de"
	for text, want := range map[string]api.Errno{
		strings.Repeat("\n", api.MaxText+1):        api.ErrLarge,
		strings.Repeat("?", api.MaxText+1):         api.ErrLarge,
		"?":                                        api.ErrForm,
		head + "\nx":                               api.ErrForm,
		"?\n\t\n":                                  api.ErrForm,
		head + "\n\xff\n":                          api.ErrForm,
		head + "Subject: " + xs(201) + "\n":        api.ErrForm,
		head + "References: <b> <b>\n":             api.ErrTwice,
		head + "In-Reply-To: <a>\n":                api.ErrLoop,
		head + "References: <b> <a>\n":             api.ErrLoop,
		head + "\n" + strings.Repeat("\n", 20_001): api.ErrLarge,
		head + "To: " + many + "\nCc: q" + strings.ReplaceAll(many, ",", ",q") + "\n":                       api.ErrLarge,
		head + "References: <" + strings.Join(names("r", 51), "> <") + ">\n":                                api.ErrLarge,
		head + "References: <" + strings.Join(names("r", 50), "> <") + ">\nIn-Reply-To: <s>\nSubject: Hi\n": api.ErrLarge,
	} {
		m, line, e := thread.Parse(text)
		fails(t, e, want, m, line)
	}
	m, line, e := thread.Parse(head + "To: " + many + "\nCc: " + many + "\nReferences: <" + strings.Join(names("r", 50), "> <") + ">\nIn-Reply-To: <" + name("r", 7) + ">\n")
	is(t, []any{len(m.To), len(m.Cc), len(m.Refs), line, e}, []any{60, 0, 50, 0, api.OK})
	m, line, e = thread.Parse(head + "Subject: " + xs(200) + "\n\n" + strings.Repeat("\n", 20_000))
	is(t, []any{len(m.Subject), len(m.Body), line, e}, []any{200, 20_000, 0, api.OK})
	text := head + "X:" + strings.Repeat("x", api.MaxText-len(head)-3) + "\n"
	_, line, e = thread.Parse(text)
	is(t, []any{len(text), line, e}, []any{api.MaxText, 0, api.OK})
}

// P2.4: what is read is a right letter, and Parse of Print of it is the same.
func TestParseOfAnything(t *testing.T) {
	r := rand.New(rand.NewPCG(2, 4))
	read := 0
	for range 50_000 {
		s := ""
		for _, line := range shuffledLines(r) {
			s += line
		}
		m, line, e := thread.Parse(s)
		if e != api.OK {
			fails(t, e, e, m)
			is(t, line == 0 || e == api.ErrSyntax || e == api.ErrNone, true)
			continue
		}
		read++
		is(t, thread.Check(m), api.OK)
		text, e := thread.Print(m)
		is(t, e, api.OK)
		expectParse(t, text, m)
	}
	if read < 1_000 {
		t.Errorf("only %d letters were read", read)
	}
}

func shuffledLines(r *rand.Rand) []string {
	l := strings.SplitAfter(head, "\n")[:3]
	for range r.IntN(5) {
		l = append(l, pick(r,
			"To: bo@b.de, \"Lee, Cy\" <cy@b.de>\n", "to:\n", "CC: Ann <ann@b.de>; bo@b.de\n", "References: <r> <s>\n", "In-Reply-To:\n <s>\n", "in-reply-to: <t>\n",
			"Subject: Re:  Hi\n", "Subject:\n", " more\n", "X: y\n", "From: ?\n", "?\n", "\n", "\nbody\n> more\n"))
	}
	r.Shuffle(len(l), func(i, j int) { l[i], l[j] = l[j], l[i] })
	return l
}
