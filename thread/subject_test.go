package thread_test

import (
	"strings"
	"testing"

	"paperchase/thread"
)

// P2.2
func TestSubject(t *testing.T) {
	for _, c := range []struct {
		text, want string
		many       int
	}{
		{"", "", 0},
		{"   ", "", 0},
		{"Lunch", "lunch", 0},
		{"  Lunch   at  ONE ", "lunch at one", 0},
		{"Re: [team] RE[2]: Lunch", "lunch", 2},
		{"re:fwd:FW:Aw:wG:x", "x", 5},
		{"Fwd : x", "fwd : x", 0},
		{"Re : x", "re : x", 0},
		{"Re", "re", 0},
		{"Re:", "", 1},
		{" Re:  ", "", 1},
		{"Rex: y", "rex: y", 0},
		{"Reply: x", "reply: x", 0},
		{"x re: y", "x re: y", 0},
		{"re[12345678901234567890]: x", "x", 1},
		{"FWD[007]:x", "x", 1},
		{"re[]: x", "re[]: x", 0},
		{"re[a]: x", "re[a]: x", 0},
		{"re[1: x", "re[1: x", 0},
		{"re[1] : x", "re[1] : x", 0},
		{"re [1]: x", "re [1]: x", 0},
		{"re[1][2]: x", "re[1][2]: x", 0},
		{"re[1]", "re[1]", 0},
		{"fwd[2", "fwd[2", 0},
		{"[team]", "", 0},
		{"[team][list]x", "x", 0},
		{"[]x", "x", 0},
		{"[ ] x", "x", 0},
		{"[" + strings.Repeat("a", 20) + "] x", "x", 0},
		{"[" + strings.Repeat("a", 21) + "] x", "[" + strings.Repeat("a", 21) + "] x", 0},
		{"[a[b]] x", "[a[b]] x", 0},
		{"[a x", "[a x", 0},
		{"[", "[", 0},
		{"[3]: x", ": x", 0},
		{"x [team]", "x [team]", 0},
		{"[a] re: [b] x [c]", "x [c]", 1},
		{"Änderung  \u212aÉ", "Änderung \u212aÉ", 0},
		{"\tRe: x", "\tre: x", 0},
		{"Re:\nX", "\nx", 1},
		{"\xff  \xc3 RE:", "\xff \xc3 re:", 0},
		{strings.Repeat("Re: ", 50_000), "", 50_000},
		{strings.Repeat("[", 200_000), strings.Repeat("[", 200_000), 0},
	} {
		s, many := thread.Subject(c.text)
		is(t, []any{s, many}, []any{c.want, c.many})
		again, many := thread.Subject(s)
		is(t, []any{again, many}, []any{s, 0})
	}
}
