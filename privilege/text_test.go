package privilege_test

import (
	"slices"
	"strings"
	"testing"

	"paperchase/api"
	"paperchase/privilege"
)

const twoRows = "1 a 10 full 0 law@ours.de ann@firm.de;bob@firm.de advice from lawyer to client, other\n2 b@c 0 part 12 ann@firm.de - x\n"

func rowsOfTwo() []api.LogRow {
	return []api.LogRow{row(1, "a"), {No: 2, Id: "b@c", From: "ann@firm.de", Kind: api.CallPart, About: "x", Spans: 12}}
}

// P7.9
func TestPrintLog(t *testing.T) {
	for text, l := range map[string][]api.LogRow{"": nil, twoRows: rowsOfTwo(), strings.SplitAfter(twoRows, "\n")[0]: rowsOfTwo()[:1]} {
		got, e := privilege.PrintLog(l)
		gives(t, got, e, text)
		back, at, e := privilege.ParseLog(text)
		gives(t, back, e, l)
		is(t, at, 0)
	}
	eachBadRows(t, func(l []api.LogRow) (api.Errno, []any) {
		got, e := privilege.PrintLog(l)
		return e, []any{got}
	})
}

// longRows are as many bytes long, as a string.
func longRows(t *testing.T, size int) []api.LogRow {
	t.Helper()
	l := manyRows(api.MaxItems)
	for i := range l {
		l[i].To = nil
		l[i].About = strings.Repeat("x", 50)
	}
	text, e := privilege.PrintLog(l)
	is(t, e, api.OK)
	for i := 0; len(text)+250*i < size; i++ {
		l[i].About += strings.Repeat("y", min(250, size-len(text)-250*i))
	}
	return l
}

// P7.9: a string has at most MaxText bytes.
func TestPrintLogLarge(t *testing.T) {
	l := longRows(t, api.MaxText)
	text, e := privilege.PrintLog(l)
	is(t, []any{len(text), e}, []any{api.MaxText, api.OK})
	back, at, e := privilege.ParseLog(text)
	gives(t, back, e, l)
	is(t, at, 0)
	got, e := privilege.PrintLog(longRows(t, api.MaxText+1))
	fails(t, e, api.ErrLarge, got)
	l = longRows(t, api.MaxText+1)
	l[api.MaxItems-1].No = 1
	got, e = privilege.PrintLog(l)
	fails(t, e, api.ErrArg, got)
	back, at, e = privilege.ParseLog(text + "\n")
	fails(t, e, api.ErrLarge, back, at)
}

// P7.9
func TestParseLogSyntax(t *testing.T) {
	line := "2 b 10 full 0 law@ours.de ann@firm.de advice"
	for _, bad := range []string{
		"", " ", "2", "2 b 10 full 0 law@ours.de ann@firm.de", " " + line, "2  b" + line[3:],
		"2  10 full 0 law@ours.de ann@firm.de advice", "2 b 10 full 0  ann@firm.de advice", "2 b 10 full 0 law@ours.de  advice",
		"x" + line[1:], "02" + line[1:], "+2" + line[1:], "-0" + line[1:], "2.0" + line[1:], "1000000000" + line[1:], " " + line[1:],
		"2 b 010 full 0 law@ours.de - x", "2 b x full 0 law@ours.de - x", "2 b 1000000000 full 0 law@ours.de - x", "2 b  full 0 law@ours.de - x",
		"2 b 10 Full 0 law@ours.de - x", "2 b 10 none 0 law@ours.de - x", "2 b 10 3 0 law@ours.de - x", "2 b 10  0 law@ours.de - x", "2 b 10 fullpart 0 law@ours.de - x",
		"2 b 10 full 00 law@ours.de - x", "2 b 10 full - law@ours.de - x", "2 b 10 full  law@ours.de - x", "2 b 10 part 1000000000 law@ours.de - x",
		"2\tb 10 full 0 law@ours.de - x",
	} {
		first := "1 a 10 full 0 law@ours.de - x\n"
		for at, text := range map[int]string{0: bad + "\n" + first, 1: first + bad + "\n", 2: first + line + "\n" + bad + "\nx\n"} {
			got, n, e := privilege.ParseLog(text)
			fails(t, e, api.ErrSyntax, got)
			is(t, n, at)
		}
	}
	for text, at := range map[string]int{"1 a 10 full 0 law@ours.de - x": 0, twoRows + "3 c 10 full 0 law@ours.de - x": 2, twoRows + " ": 2} {
		got, n, e := privilege.ParseLog(text)
		fails(t, e, api.ErrSyntax, got)
		is(t, n, at)
	}
}

// P7.9: what has the form is for CheckRows.
func TestParseLogRows(t *testing.T) {
	line := "1 a 10 full 0 law@ours.de ann@firm.de advice\n"
	for text, want := range map[string]api.Errno{
		"2" + line[1:]:                                              api.ErrArg,
		"-1" + line[1:]:                                             api.ErrArg,
		"0" + line[1:]:                                              api.ErrArg,
		"1 é 10 full 0 law@ours.de - x\n":                           api.ErrForm,
		line + "2 a 10 full 0 law@ours.de - x\n":                    api.ErrTwice,
		"1 a -1 full 0 law@ours.de - x\n":                           api.ErrArg,
		"1 a 999999999 full 0 law@ours.de - x\n":                    api.ErrArg,
		"1 a 10 full 0 - - x\n":                                     api.ErrForm,
		"1 a 10 full 0 law@ours.de x x\n":                           api.ErrForm,
		"1 a 10 full 0 law@ours.de ; x\n":                           api.ErrForm,
		"1 a 10 full 0 law@ours.de a@b.de; x\n":                     api.ErrForm,
		"1 a 10 full 0 law@ours.de ;a@b.de x\n":                     api.ErrForm,
		"1 a 10 full 0 law@ours.de a@b.de;;b@b.de x\n":              api.ErrForm,
		"1 a 10 full 0 law@ours.de -;a@b.de x\n":                    api.ErrForm,
		"1 a 10 full 0 law@ours.de a@b.de,b@b.de x\n":               api.ErrForm,
		"1 a 10 full 0 law@ours.de a@b.de;a@b.de x\n":               api.ErrOrder,
		"1 a 10 full 0 law@ours.de - \n":                            api.ErrForm, // no About
		"1 a 10 full 0 law@ours.de -  x\n":                          api.ErrForm,
		"1 a 10 full 0 law@ours.de - x \n":                          api.ErrForm,
		"1 a 10 full 0 law@ours.de - x  y\n":                        api.ErrForm,
		"1 a 10 full 0 law@ours.de - x\r\n":                         api.ErrForm,
		"1 a 10 full 0 law@ours.de - " + strings.Repeat("x", 301):   api.ErrSyntax, // without a line feed
		"1 a 10 full 0 law@ours.de - x\n1 a\n":                      api.ErrSyntax,
		"1 a 10 full 1 law@ours.de - x\n":                           api.ErrArg,
		"1 a 10 full -1 law@ours.de - x\n":                          api.ErrArg,
		"1 a 10 part 0 law@ours.de - x\n":                           api.ErrArg,
		"1 a 10 part 1001 law@ours.de - x\n":                        api.ErrArg,
		strings.Repeat("1 a 1 full 0 a@b.de - x\n", api.MaxItems+1): api.ErrLarge,
	} {
		got, at, e := privilege.ParseLog(text)
		fails(t, e, want, got)
		if want != api.ErrSyntax {
			is(t, at, 0)
		}
	}
	got, at, e := privilege.ParseLog("1 - 0 part 1000 law@ours.de a@b.de;b@b.de 1 - 0 full; é\n")
	gives(t, got, e, []api.LogRow{{No: 1, Id: "-", From: "law@ours.de", To: words("a@b.de b@b.de"), Kind: api.CallPart, About: "1 - 0 full; é", Spans: 1_000}})
	is(t, at, 0)
}

// Z2
func TestPrintLogKeeps(t *testing.T) {
	fresh := append(manyRows(2), api.LogRow{})
	l := slices.Clone(fresh)
	for i := range l {
		l[i].To = append(slices.Clone(l[i].To), "rest")[:len(l[i].To)]
	}
	text, e := privilege.PrintLog(l[:2])
	is(t, e, api.OK)
	for i := range l {
		is(t, l[i].To[:len(l[i].To)+1][len(l[i].To)], "rest")
		is(t, l[i].To, fresh[i].To)
	}
	got, _, e := privilege.ParseLog(text)
	gives(t, got, e, fresh[:2])
}
