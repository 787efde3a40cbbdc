package produce_test

import (
	"math/rand/v2"
	"strings"
	"testing"
	"unicode/utf8"

	"paperchase/api"
	"paperchase/produce"
)

// P8.2
func TestWrap(t *testing.T) {
	a := func(many int) string { return strings.Repeat("a", many) }
	gap := func(many int) string { return strings.Repeat(" ", many) }
	for _, c := range []struct {
		text string
		want []string
	}{
		{"", nil},
		{"\n", []string{""}},
		{"one\n\n two  \n", []string{"one", "", " two  "}},
		{a(80) + "\n", []string{a(80)}},
		{gap(80) + "\n", []string{gap(80)}},
		{a(81) + "\n", []string{a(80), "a"}},
		{a(160) + "\n", []string{a(80), a(80)}},
		{a(161) + "\n", []string{a(80), a(80), "a"}},
		{a(79) + " bc\n", []string{a(79), "bc"}},
		{a(80) + " bc\n", []string{a(80), "bc"}}, // the blank is the 81st byte
		{a(81) + " bc\n", []string{a(80), "a bc"}},
		{a(80) + " \n", []string{a(80), ""}}, // nothing is left
		{a(79) + "  b\n", []string{a(79) + " ", "b"}},
		{a(80) + "  b\n", []string{a(80), " b"}},
		{"a " + a(79) + "\n", []string{"a", a(79)}},
		{"a  " + a(79) + "\n", []string{"a ", a(79)}},
		{" a " + a(80) + "\n", []string{" a", a(80)}},
		{" " + a(80) + "\n", []string{" " + a(79), "a"}},         // only blanks before the blank
		{gap(3) + a(99) + "\n", []string{gap(3) + a(77), a(22)}}, // likewise
		{gap(81) + "\n", []string{gap(80), " "}},
		{gap(200) + "b\n", []string{gap(80), gap(80), gap(40) + "b"}},
		{gap(79) + "b c\n", []string{gap(79) + "b", "c"}},
		{gap(80) + "b c\n", []string{gap(80), "b c"}},
		{"one " + a(70) + " two " + a(78) + "\n" + a(82) + "\n", []string{"one " + a(70) + " two", a(78), a(80), "aa"}},
		{a(79) + "éé\n", []string{a(79), "éé"}},
		{a(78) + "éé\n", []string{a(78) + "é", "é"}},
		{a(77) + "\U0001f600\n", []string{a(77), "\U0001f600"}},
		{a(76) + "\U0001f600b\n", []string{a(76) + "\U0001f600", "b"}},
		{strings.Repeat("€", 54) + "\n", []string{strings.Repeat("€", 26), strings.Repeat("€", 26), "€€"}},
		{"x " + strings.Repeat("€", 27) + "\n", []string{"x", strings.Repeat("€", 26), "€"}},
		{a(60) + "\u00a0" + a(20) + "\n", []string{a(60) + "\u00a0" + a(18), "aa"}}, // another blank does not count
	} {
		got, e := produce.Wrap(c.text)
		gives(t, got, e, c.want)
	}
	eachBadText(t, func(text string) (api.Errno, []any) {
		got, e := produce.Wrap(text)
		return e, []any{got}
	})
	got, e := produce.Wrap(strings.Repeat("\n", api.MaxBody))
	gives(t, len(got), e, api.MaxBody)
	got, e = produce.Wrap(a(api.MaxBody-1) + "\n")
	gives(t, len(got), e, api.MaxBody/80)
}

// pieces divides a line as the document's words say.
func pieces(line string) []string {
	if len(line) <= 80 {
		return []string{line}
	}
	for at := 80; at >= 0; at-- {
		if line[at] == ' ' && strings.TrimLeft(line[:at], " ") != "" {
			return append([]string{line[:at]}, pieces(line[at+1:])...)
		}
	}
	at := 80
	for !utf8.ValidString(line[:at]) {
		at--
	}
	return append([]string{line[:at]}, pieces(line[at:])...)
}

// P8.2: Wrap and Pages are as the document's words say.
func TestPagesRandom(t *testing.T) {
	r := rand.New(rand.NewPCG(8, 2))
	for range 5_000 {
		text := randomText(r, 150)
		var want []string
		for line := range strings.Lines(text) {
			want = append(want, pieces(strings.TrimSuffix(line, "\n"))...)
		}
		got, e := produce.Wrap(text)
		gives(t, got, e, want)
		for _, piece := range got {
			is(t, len(piece) <= 80 && utf8.ValidString(piece), true)
		}
		pages, e := produce.Pages(text)
		is(t, e, api.OK)
		var all []string
		for i, page := range pages {
			all = append(all, page...)
			is(t, len(page) == 50 || i == len(pages)-1 && (len(page) > 0 || text == ""), true)
		}
		is(t, all, want)
	}
}

// P8.2
func TestPages(t *testing.T) {
	for many, want := range map[int]int{0: 1, 1: 1, 49: 1, 50: 1, 51: 2, 100: 2, 101: 3, api.MaxBody / 2: 200} {
		got, e := produce.Pages(rows(many))
		gives(t, len(got), e, want)
		last := many - (want-1)*50
		for i, page := range got {
			is(t, len(page) == 50 && i < want-1 || len(page) == last && i == want-1, true)
		}
	}
	got, e := produce.Pages("")
	gives(t, got, e, [][]string{nil})
	got, e = produce.Pages("\n")
	gives(t, got, e, [][]string{{""}})
	got, e = produce.Pages(strings.Repeat("x\n", 49) + strings.Repeat("y", 100) + "\nz\n")
	is(t, e, api.OK)
	is(t, [][]string{got[0][48:], got[1]}, [][]string{{"x", strings.Repeat("y", 80)}, {strings.Repeat("y", 20), "z"}})
	eachBadText(t, func(text string) (api.Errno, []any) {
		got, e := produce.Pages(text)
		return e, []any{got}
	})
	keeps(t, func() []any {
		got, _ := produce.Pages(rows(170))
		return []any{got}
	})
}
