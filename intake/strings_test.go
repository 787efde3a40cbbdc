package intake_test

import (
	"fmt"
	"hash/fnv"
	"math/rand/v2"
	"strings"
	"testing"

	"paperchase/api"
	"paperchase/intake"
)

// P1.1
func TestQuote(t *testing.T) {
	for s, want := range map[string]string{
		"":           `""`,
		"abc":        `"abc"`,
		"a b":        `"a\x20b"`,
		"\"":         `"\""`,
		`\`:          `"\\"`,
		"\n":         `"\n"`,
		"\t\r\x00":   `"\x09\x0d\x00"`,
		"!~":         `"!~"`,
		"\x1f \x7f":  `"\x1f\x20\x7f"`,
		"é":          `"\xc3\xa9"`,
		"\xff\x80":   `"\xff\x80"`,
		`\n`:         `"\\n"`,
		"\\x20\"end": `"\\x20\"end"`,
	} {
		is(t, intake.Quote(s), want)
		back, long, e := intake.Unquote(want + "rest \"")
		is(t, []any{back, long, e}, []any{s, len(want), api.OK})
	}
}

// P1.1
func TestQuoteOfEachByte(t *testing.T) {
	for c := range 256 {
		s := string([]byte{byte(c)})
		want := s
		switch {
		case c == '"' || c == '\\':
			want = `\` + s
		case c == '\n':
			want = `\n`
		case c < 33 || c > 126:
			want = fmt.Sprintf(`\x%02x`, c)
		}
		q := intake.Quote(s)
		is(t, q, `"`+want+`"`)
		back, long, e := intake.Unquote(q)
		is(t, []any{back, long, e}, []any{s, len(q), api.OK})
	}
}

// P1.1: only what Quote writes is read.
func TestUnquoteRefuses(t *testing.T) {
	for _, s := range []string{
		"", "a", ` "a"`, `"`, `"a`, `"\`, `"\"`, `"\n`, `"a\`, `"\x`, `"\x2`, `"\x20`, `"\x2"`,
		`"a b"`, "\"a\nb\"", "\"\t\"", "\"\x7f\"", "\"é\"", "\"\xff\"",
		`"\a"`, `"\t"`, `"\N"`, `"\X20"`, `"\x0a"`, `"\x22"`, `"\x5c"`, `"\x41"`, `"\x7e"`,
		`"\x0D"`, `"\xFF"`, `"\xg0"`, `"\x+1"`, `"\x1 "`, `"\x 1"`, `"\x-1"`, `"\x_1"`,
	} {
		v, long, e := intake.Unquote(s)
		if e != api.ErrSyntax || v != "" || long != 0 {
			t.Errorf("%q: %q, %d, %d", s, v, long, e)
		}
	}
	v, long, e := intake.Unquote(`""""`)
	is(t, []any{v, long, e}, []any{"", 2, api.OK})
}

// P1.1, Z10: whatever is read is what Quote writes.
func TestUnquoteOfAnything(t *testing.T) {
	r := rand.New(rand.NewPCG(1, 1))
	read := 0
	for range 20_000 {
		s := `"`
		for range r.IntN(9) {
			s += pick(r, `\\`, `\"`, `\n`, `\x0`, `\x2`, `\xf`, "0", "a", "b", "A", `"`, `\`, " ", "\n", "é")
		}
		v, long, e := intake.Unquote(s)
		if e == api.OK {
			read++
			is(t, s[:long], intake.Quote(v))
		} else {
			fails(t, e, api.ErrSyntax, v, long)
		}
	}
	if read < 1_000 {
		t.Errorf("only %d strings were read", read)
	}
}

// P1.1, and the size that Z1 names.
func TestQuoteOfMuch(t *testing.T) {
	s := strings.Repeat("\x00\"z", 60_000)
	q := intake.Quote(s)
	back, long, e := intake.Unquote(q)
	if back != s || long != len(q) || e != api.OK {
		t.Error("a long string is not read back")
	}
}

// P1.1
func TestDigest(t *testing.T) {
	is(t, intake.Digest(""), "cbf29ce484222325")
	is(t, intake.Digest("a"), "af63dc4c8601ec8c")
	zeros := false
	for i := range 2_000 {
		s := strings.Repeat("\xffé", i%7) + fmt.Sprint(i)
		h := fnv.New64a()
		h.Write([]byte(s))
		want := fmt.Sprintf("%016x", h.Sum64())
		zeros = zeros || strings.HasPrefix(want, "0")
		is(t, intake.Digest(s), want)
	}
	if !zeros {
		t.Error("no digest of the test has zeros in front")
	}
}
