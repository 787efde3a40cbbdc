package produce_test

import (
	"math/rand/v2"
	"strings"
	"testing"

	"paperchase/api"
	"paperchase/produce"
)

// P8.9
func TestTable(t *testing.T) {
	p := production()
	p.Sheets[4].Version = 12
	want := [][]string{
		words("begin end id family custodian kind pages version"),
		words("AB0007 AB0008 a a bob shown 2 1"),
		words("AB0009 AB0009 b a ann held 1 1"),
		words("AB0010 AB0010 c a ann left 1 1"),
		words("AB0011 AB0011 d a ann shown 1 1"),
		words("AB0012 AB0014 e e ann shown 3 12"),
		words("AB0015 AB0015 f f bob held 1 1"),
		words("AB0016 AB0016 g f bob back 1 1"),
	}
	got, e := produce.Table(p, items())
	gives(t, got, e, want)
	eachBadProduction(t, func(p api.Production) (api.Errno, []any) {
		got, e := produce.Table(p, make([]api.Item, api.MaxItems+1))
		return e, []any{got}
	})
	eachBadItems(t, func(l []api.Item) (api.Errno, []any) {
		got, e := produce.Table(single(1, "AB", 4, "x", 1, 1), l)
		return e, []any{got}
	})
	for _, l := range [][]api.Item{nil, items()[:6]} {
		got, e := produce.Table(p, l)
		fails(t, e, api.ErrNone, got)
	}
	p, l := roomy(p), roomy(items())
	keeps(t, func() []any {
		got, _ := produce.Table(p, l)
		return []any{got}
	}, p, l)
}

// P8.9
func TestLoad(t *testing.T) {
	most := make([]string, 30)
	for _, c := range []struct {
		rows [][]string
		want string
	}{
		{nil, ""},
		{[][]string{{""}}, "^^\n"},
		{[][]string{{"", ""}, {"", ""}}, "^^|^^\n^^|^^\n"},
		{[][]string{{"id", "a^b"}, {"1", "x\ny~"}}, "^id^|^a^^b^\n^1^|^x~ny~~^\n"},
		{[][]string{{"^"}, {"^^"}, {"|"}, {"^|^"}}, "^^^^\n^^^^^^\n^|^\n^^^|^^^\n"},
		{[][]string{{"~"}, {"~n"}, {"\n"}, {"\n\n~~n"}}, "^~~^\n^~~n^\n^~n^\n^~n~n~~~~n^\n"},
		{[][]string{{" a  b ", "é\U0001f600", "\u0080"}}, "^ a  b ^|^é\U0001f600^|^\u0080^\n"},
		{[][]string{most}, strings.Repeat("^^|", 29) + "^^\n"},
	} {
		got, e := produce.PrintLoad(c.rows)
		gives(t, got, e, c.want)
		back, at, e := produce.ReadLoad(c.want)
		gives(t, back, e, c.rows)
		is(t, at, 0)
	}
	table, e := produce.Table(production(), items())
	is(t, e, api.OK)
	text, e := produce.PrintLoad(table)
	is(t, []any{strings.HasPrefix(text, "^begin^|^end^|^id^"), e}, []any{true, api.OK})
	back, _, e := produce.ReadLoad(text)
	gives(t, back, e, table)
	l := roomy(table)
	keeps(t, func() []any {
		_, e := produce.PrintLoad(l)
		is(t, e, api.OK)
		got, _, _ := produce.ReadLoad(text)
		return []any{got}
	}, l)
}

// column is rows of one cell each.
func column(many int, cell string) [][]string {
	var l [][]string
	for range many {
		l = append(l, []string{cell})
	}
	return l
}

// eachBadTable calls a function with rows that have the errors of PrintLoad but the last one.
func eachBadTable(t *testing.T, call func(rows [][]string) (api.Errno, []any)) {
	t.Helper()
	e, results := call(column(api.MaxItems+2, "\t"))
	fails(t, e, api.ErrLarge, results...)
	bad := [][][]string{{nil}, {{}, {"a"}}, {{"a"}, nil}, {make([]string, 31)}, {{"a"}, {"b", "c"}}, {{"a", "b"}, {"c"}}, {{"a", "b"}, {"c", "d"}, {"e", "f", "g"}}}
	for _, cell := range badLines() {
		bad = append(bad, [][]string{{cell}}, [][]string{{"a", "b"}, {"c", cell}})
	}
	for _, rows := range bad {
		e, results := call(rows)
		fails(t, e, api.ErrForm, results...)
	}
}

// P8.9
func TestPrintLoadErrors(t *testing.T) {
	eachBadTable(t, func(rows [][]string) (api.Errno, []any) {
		got, e := produce.PrintLoad(rows)
		return e, []any{got}
	})
	got, e := produce.PrintLoad(column(api.MaxItems+1, "x"))
	gives(t, got, e, strings.Repeat("^x^\n", api.MaxItems+1))
	for _, cell := range []string{"x", "é", "^", "~", "\n"} {
		long := strings.Repeat(cell, (api.MaxText-3)/2) // as many bytes as written, or half as many
		got, e := produce.PrintLoad([][]string{{long}})
		is(t, []any{len(got) <= api.MaxText, e}, []any{true, api.OK})
		got, e = produce.PrintLoad([][]string{{long + cell}, {long}})
		fails(t, e, api.ErrLarge, got)
	}
	got, e = produce.PrintLoad([][]string{{strings.Repeat("x", api.MaxText-3)}})
	gives(t, len(got), e, api.MaxText)
	got, e = produce.PrintLoad([][]string{{strings.Repeat("x", api.MaxText-2)}})
	fails(t, e, api.ErrLarge, got)
	got, e = produce.PrintLoad([][]string{{strings.Repeat("x", api.MaxText-2)}, {"\t"}})
	fails(t, e, api.ErrForm, got) // before the last one
}

// P8.9
func TestReadLoadErrors(t *testing.T) {
	for _, line := range []string{
		"", " ", "x", "^", "^x", "x^", "^x^ ", " ^x^", "^x^|", "|^x^", "|", "^x^||^y^", "^x^^y^|", "^x^y^", "^x^,^y^", "^x^ |^y^", "^x^^y",
		"^^^", "^^^^^", "^x^^", "^~^", "^~x^", "^~N^", "^~~~^", "^x~", "^x^|^y", "^x^|y", "^x^|y^", "^a^^|^b^", "\"x\"", "^x^\r",
	} {
		for _, c := range []struct {
			text string
			at   int
		}{{line + "\n", 0}, {"^a^\n^b^|^c^\n" + line + "\n^d\n", 2}} {
			got, at, e := produce.ReadLoad(c.text)
			fails(t, e, api.ErrSyntax, got)
			is(t, at, c.at)
		}
	}
	got, at, e := produce.ReadLoad("^a^\n^b^") // no line feed ends it
	fails(t, e, api.ErrSyntax, got)
	is(t, at, 1)
	got, at, e = produce.ReadLoad("^a^\n^\t^\n^b^|^c^\n^")
	fails(t, e, api.ErrSyntax, got)
	is(t, at, 3)
	for text, want := range map[string]api.Errno{
		strings.Repeat("\n", api.MaxText+1):    api.ErrLarge,
		strings.Repeat("^^\n", api.MaxItems+2): api.ErrLarge,
		"^a^\n^b^|^c^\n":                       api.ErrForm,
		"^a^|^b^\n^c^\n":                       api.ErrForm,
		strings.Repeat("^^|", 30) + "^^\n":     api.ErrForm,
		"^\t^\n":                               api.ErrForm,
		"^a^|^\xff^\n":                         api.ErrForm,
		"^a\x7f^\n":                            api.ErrForm,
		"^a\r^\n":                              api.ErrForm,
		"^" + strings.Repeat("x", api.MaxText-3) + "^\n":  api.OK,
		"^" + strings.Repeat("x", api.MaxText-2) + "^\n":  api.ErrLarge,
		strings.Repeat("^x^|^y^\n", api.MaxItems+1):       api.OK,
		strings.Repeat("^x^|^y^\n", api.MaxItems+2):       api.ErrLarge,
		strings.Repeat("^x^|^y^\n", api.MaxItems+1)[:799]: api.ErrSyntax,
	} {
		got, at, e := produce.ReadLoad(text)
		is(t, e, want)
		is(t, []bool{at > 0, len(got) > 0}, []bool{want == api.ErrSyntax, want == api.OK})
	}
}

// P8.9: ReadLoad of PrintLoad of rows is these rows, and it accepts nothing else.
func TestLoadRandom(t *testing.T) {
	r := rand.New(rand.NewPCG(8, 9))
	signs := []string{"^", "^", "|", "~", "~", "n", "a", "é", "\n"}
	for range 10_000 {
		wide := 1 + r.IntN(3)
		var rows [][]string
		for range r.IntN(4) {
			row := make([]string, wide)
			for i := range row {
				for range r.IntN(5) {
					row[i] += pick(r, signs...)
				}
			}
			rows = append(rows, row)
		}
		text, e := produce.PrintLoad(rows)
		is(t, e, api.OK)
		back, at, e := produce.ReadLoad(text)
		gives(t, back, e, rows)
		is(t, at, 0)
	}
	read := 0
	for range 100_000 {
		text := "^"
		for range r.IntN(9) {
			text += pick(r, "^", "^", "^", "|", "~", "n", "a", "^|^", "^\n^")
		}
		text += "^\n"
		rows, at, e := produce.ReadLoad(text)
		if e != api.OK {
			fails(t, e, e, rows)
			is(t, e == api.ErrSyntax || e == api.ErrForm && at == 0, true)
			continue
		}
		read++
		again, e := produce.PrintLoad(rows)
		gives(t, again, e, text)
	}
	is(t, read > 5_000, true)
}
