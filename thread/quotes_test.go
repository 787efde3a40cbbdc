package thread_test

import (
	"math/rand/v2"
	"strings"
	"testing"

	"paperchase/api"
	"paperchase/thread"
)

func quoted(depth int, text string) api.Quoted { return api.Quoted{Depth: depth, Text: text} }

func expectLines(t *testing.T, body string, want ...api.Quoted) {
	t.Helper()
	l, e := thread.Lines(body)
	is(t, e, api.OK)
	is(t, l, want)
}

// P2.6
func TestLines(t *testing.T) {
	expectLines(t, "")
	expectLines(t, "\n", quoted(0, ""))
	expectLines(t, "a\n> b\n>c\n>> d\n> > e\n>>f\n> >> g \n", quoted(0, "a"), quoted(1, "b"), quoted(1, "c"), quoted(2, "d"), quoted(2, "e"), quoted(2, "f"), quoted(3, "g "))
	expectLines(t, ">  b\n>  > c\n > d\n>\n> \n>  \n> a > b\n", quoted(1, " b"), quoted(1, " > c"), quoted(0, " > d"), quoted(1, ""), quoted(1, ""), quoted(1, " "), quoted(1, "a > b"))
	expectLines(t, strings.Repeat(">", api.MaxBody-1)+"\n", quoted(api.MaxBody-1, ""))
	eachBadBody(t, func(body string) (any, api.Errno) { return thread.Lines(body) })
}

// P2.6
func TestAttributions(t *testing.T) {
	for _, c := range []struct {
		body string
		want int // the Depth of the first line
	}{
		{"Bo wrote:\n> x\n", 1},
		{"Bo schrieb:\n>> x\n", 2},
		{"-----Original Message-----\n> x\n", 1},
		{"xwrote:\n> x\n", 1},
		{"Bo wrote:\n\n  \n> x\n", 1},
		{"Bo wrote:\n>\n", 1},
		{"Bo wrote:\n\n>>\n> x\n", 2},
		{"> Bo wrote:\n>\n\n> \n>> x\n", 2},
		{"> Bo wrote:\n>>> x\n", 3},
		{"> -----Original Message-----\n>> x\n", 2},
		{"-----Original Message-----\n\n> -----Original Message-----\n>> x\n", 1},
		{"Bo wrote:\n", 0},
		{"Bo wrote:\n\n", 0},
		{"Bo wrote:\nx\n> y\n", 0},
		{"Bo wrote:\n\nx\n> y\n", 0},
		{"Bo wrote:\nCy wrote:\n> y\n", 0},
		{"> Bo wrote:\n> x\n>> y\n", 1},
		{"> Bo wrote:\nx\n", 1},
		{"> Bo wrote:\n", 1},
		{">> Bo wrote:\n> x\n>>> y\n", 2},
		{"wrote:\n> x\n", 0},
		{"schrieb:\n> x\n", 0},
		{"> wrote:\n>> x\n", 1},
		{"Bo wrote: \n> x\n", 0},
		{"Bo wrote\n> x\n", 0},
		{"Bo Wrote:\n> x\n", 0},
		{" -----Original Message-----\n> x\n", 0},
		{"-----Original Message----- \n> x\n", 0},
		{"x-----Original Message-----\n> x\n", 0},
		{"-----original message-----\n> x\n", 0},
	} {
		l, e := thread.Lines(c.body)
		is(t, e, api.OK)
		if l[0].Depth != c.want {
			t.Errorf("%q: Depth %d, want %d", c.body, l[0].Depth, c.want)
		}
	}
	expectLines(t, "A wrote:\n> B wrote:\n>\n> > C wrote:\n> >\n> x\n", quoted(1, "A wrote:"), quoted(2, "B wrote:"), quoted(1, ""), quoted(2, "C wrote:"), quoted(2, ""), quoted(1, "x"))
	long := strings.Repeat("\n", api.MaxBody-13)
	l, e := thread.Lines("A wrote:\n" + long + "> x\n")
	is(t, []any{l[0], len(l), e}, []any{quoted(1, "A wrote:"), api.MaxBody - 11, api.OK})
}

// P2.6
func TestDepth(t *testing.T) {
	for body, want := range map[string]int{"": 0, "x\n": 0, "x\n> y\n>>> z\n>> u\n": 3, "A wrote:\n> x\n": 1} {
		n, e := thread.Depth(body)
		is(t, []any{n, e}, []any{want, api.OK})
	}
	eachBadBody(t, func(body string) (any, api.Errno) { return thread.Depth(body) })
}

// P2.6
func TestOwn(t *testing.T) {
	for body, want := range map[string]string{
		"":                                     "",
		"\n  \n":                               "",
		"> x\n":                                "",
		"a\n\n b  c \n":                        "a\n\n b  c \n",
		"\na\n> x\n\n  \n":                     "\na\n",
		"a\n\nBo wrote:\n> x\n\nb\n\n> y\n \n": "a\n\n\nb\n",
		"a wrote:\nb\n> x\n":                   "a wrote:\nb\n",
		"a\n >b\n":                             "a\n >b\n",
		strings.Repeat("\n", api.MaxBody):      "",
	} {
		s, e := thread.Own(body)
		is(t, []any{s, e}, []any{want, api.OK})
	}
	eachBadBody(t, func(body string) (any, api.Errno) { return thread.Own(body) })
}

// P2.7
func TestParagraphs(t *testing.T) {
	for body, want := range map[string][]string{
		"":                                       nil,
		"\n  \n> \n>>\n":                         nil,
		"A\nb\n":                                 {"a b"},
		"  A   b \n c\n":                         {"a b c"},
		"a\n\nb\n  \nc\n":                        {"a", "b", "c"},
		"a\n> b\n> c\n>> d\ne\n":                 {"a", "b c", "d", "e"},
		"> a\n>\n> b\n":                          {"a", "b"},
		"> a\n>  \n> b\n":                        {"a", "b"},
		"a\nBo wrote:\n> b\n":                    {"a", "b"},
		"a\nBo wrote:\nb\n":                      {"a bo wrote: b"},
		"> a\nBo wrote:\n> b\n":                  {"a", "b"},
		"> a\n> Bo wrote:\n>> b\n":               {"a", "b"},
		"a\n-----Original Message-----\n\n> b\n": {"a", "b"},
		"b\n\na\n\nB\n\n> a\n":                   {"b", "a"},
		"ÄA\u212a\n":                             {"Äa\u212a"},
		" > a\n":                                 {"> a"},
	} {
		l, e := thread.Paragraphs(body)
		is(t, e, api.OK)
		is(t, l, want)
	}
	eachBadBody(t, func(body string) (any, api.Errno) { return thread.Paragraphs(body) })
}

// P2.6, P2.7: what holds for any body.
func TestQuotesOfAnything(t *testing.T) {
	r := rand.New(rand.NewPCG(2, 6))
	for range 20_000 {
		body := ""
		for range r.IntN(8) {
			body += pick(r, "", "", ">", "> ", ">> ", "> > ") + pick(r, "", " ", "A", "b  c", "X wrote:", "wrote:", "-----Original Message-----") + "\n"
		}
		lines, e := thread.Lines(body)
		is(t, e, api.OK)
		is(t, len(lines), strings.Count(body, "\n"))
		depth, _ := thread.Depth(body)
		signs, own := 0, ""
		for i, raw := range strings.Split(body, "\n")[:len(lines)] {
			d := strings.Count(raw[:len(raw)-len(lines[i].Text)], ">")
			is(t, strings.HasSuffix(raw, lines[i].Text) && lines[i].Depth >= d, true)
			signs = max(signs, d)
			if lines[i].Depth == 0 {
				own += raw + "\n"
			}
		}
		is(t, depth, signs)
		text, _ := thread.Own(body)
		rest, ok := strings.CutPrefix(own, text)
		is(t, ok && strings.Trim(rest, " \n") == "", true)
		paragraphs, _ := thread.Paragraphs(body)
		seen := map[string]bool{}
		for _, p := range paragraphs {
			is(t, p == "" || seen[p] || p != strings.Join(strings.Fields(strings.ToLower(p)), " "), false)
			seen[p] = true
		}
	}
}
