package produce_test

import (
	"math/rand/v2"
	"strings"
	"testing"

	"paperchase/api"
	"paperchase/produce"
)

// P8.1
func TestNumber(t *testing.T) {
	for _, c := range []struct {
		prefix    string
		digits, n int
		want      string
	}{
		{"AB", 4, 12, "AB0012"},
		{"AB", 4, 1, "AB0001"},
		{"AB", 4, 9_999, "AB9999"},
		{"AB", 5, 9_999, "AB09999"},
		{"AB", 5, 10_000, "AB10000"},
		{"A", 9, 1, "A000000001"},
		{"Z", 9, 999_999_999, "Z999999999"},
		{"ABCDEFGZ", 6, 340_500, "ABCDEFGZ340500"},
	} {
		got, e := produce.Number(c.prefix, c.digits, c.n)
		gives(t, got, e, c.want)
		prefix, digits, n, e := produce.ReadNumber(c.want)
		gives(t, []any{prefix, digits, n}, e, []any{c.prefix, c.digits, c.n})
	}
	for _, prefix := range badPrefixes() {
		got, e := produce.Number(prefix, 3, 0)
		fails(t, e, api.ErrForm, got)
		got, e = produce.Number(prefix, 4, 1)
		fails(t, e, api.ErrForm, got)
	}
	for _, digits := range outside(4, 9) {
		got, e := produce.Number("AB", digits, 1)
		fails(t, e, api.ErrArg, got)
	}
	most := 9_999
	for digits := 4; digits <= 9; digits++ {
		for _, n := range outside(1, most) {
			got, e := produce.Number("AB", digits, n)
			fails(t, e, api.ErrArg, got)
		}
		most = most*10 + 9
	}
}

// P8.1
func TestReadNumberErrors(t *testing.T) {
	for _, text := range []string{
		"", "A", "AB", "0001", "A1", "A001", "A0000", "A000000000", "A0000000001", "A1234567890", "ABCDEFGHI0001",
		"AB0001.2", "AB0001 ", " AB0001", "AB 0001", "AB0001\n", "AB00A1", "AB0001A", "ab0001", "Ab0001", "ÄB0001", "AB\xff0001",
		"AB+0001", "AB-0001", "AB-1234", "AB+1234", "AB1_000", "AB0x10", "AB1e10", "AB00.1", "AB\u0661\u0662\u0663\u0664",
		"AB99999999999999999999", "AB" + strings.Repeat("0", 1_000) + "1",
	} {
		prefix, digits, n, e := produce.ReadNumber(text)
		fails(t, e, api.ErrSyntax, prefix, digits, n)
	}
}

// P8.1: ReadNumber reads what Number writes, and nothing else.
func TestNumberRandom(t *testing.T) {
	r := rand.New(rand.NewPCG(8, 1))
	read := 0
	for range 50_000 {
		text := pick(r, "A", "AB", "Q", "ABCDEFG", "")
		for range 3 + r.IntN(7) {
			text += pick(r, "0", "0", "1", "5", "9", "9", "H", "+", " ")[:min(1, r.IntN(20))]
		}
		prefix, digits, n, e := produce.ReadNumber(text)
		if e != api.OK {
			fails(t, e, api.ErrSyntax, prefix, digits, n)
			continue
		}
		read++
		got, e := produce.Number(prefix, digits, n)
		gives(t, got, e, text)
	}
	is(t, read > 1_000, true)
	for range 10_000 {
		digits := 4 + r.IntN(6)
		text, e := produce.Number("XY", digits, 1+r.IntN(9_999))
		is(t, e, api.OK)
		prefix, wide, _, e := produce.ReadNumber(text)
		gives(t, []any{prefix, wide}, e, []any{"XY", digits})
	}
}
