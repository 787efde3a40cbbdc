package privilege_test

import (
	"math/rand/v2"
	"slices"
	"strings"
	"testing"

	"paperchase/api"
	"paperchase/near"
	"paperchase/privilege"
)

// P7.2
func TestCheckTerms(t *testing.T) {
	for _, l := range [][]string{
		nil, circle().Terms, parts("0;a;a b;aa;é"), {"a b c d e f g h"}, {strings.Repeat("x", 60)}, {strings.Repeat("é", 30)}, {"\u0080"},
		names("t", api.MaxTerms),
	} {
		is(t, privilege.CheckTerms(l), api.OK)
	}
	is(t, privilege.CheckTerms(names("t", api.MaxTerms+1)), api.ErrLarge)
	for _, s := range []string{
		"", " ", "A", "aB", "É a B", " a", "a ", "a  b", "a\nb", "a\n", "a-b", "a'b", "-", "a.", "a\x7f", "a\x00b",
		"a b c d e f g h i", strings.Repeat("x", 61), strings.Repeat("é", 30) + "x", "\xff", "a \xc3", "\xed\xa0\x80",
	} {
		is(t, privilege.CheckTerms([]string{s}), api.ErrForm)
		is(t, privilege.CheckTerms([]string{"0", s}), api.ErrForm)
	}
	eachBadRise(t, api.MaxTerms, "a b", "a c", func(l []string) (api.Errno, []any) { return privilege.CheckTerms(l), nil })
}

// P7.2
func TestMarks(t *testing.T) {
	for _, c := range []struct{ terms, text, want string }{
		{"", "a", ""},
		{"a", "", ""},
		{"a", "A", "a"},
		{"a", "-a-", "a"},
		{"a", "aa ba ab", ""},
		{"a;b", "b a", "a;b"},
		{"a;b;c", "c\na\n", "a;c"},
		{"legal advice", "LEGAL,\n> Advice!", "legal advice"},
		{"legal advice", "legal advices", ""},
		{"legal advice", "illegal advice", ""},
		{"legal advice", "legal and advice", ""},
		{"legal advice", "advice legal", ""},
		{"a b;a b c;b c;c a", "a b c", "a b;a b c;b c"},
		{"a a", "a a", "a a"},
		{"a a", "b a b", ""},
		{"a a b", "a a a b", "a a b"},
		{"a b c d e f g h", "x a b c d e f g h x", "a b c d e f g h"},
		{"über recht", "Über recht", ""}, // only A to Z become small
		{"über recht", "(über Recht)", "über recht"},
		{"ber;recht", "über recht", "recht"},
		{"a", "\xffa a", "a"},
		{"a", "\xffa\xff", ""},
	} {
		got, e := privilege.Marks(parts(c.terms), c.text)
		gives(t, got, e, parts(c.want))
	}
	eachBadRise(t, api.MaxTerms, "a b", "a c", func(l []string) (api.Errno, []any) {
		got, e := privilege.Marks(l, strings.Repeat("a", api.MaxBody+1))
		return e, []any{got}
	})
	got, e := privilege.Marks(words("a b"), strings.Repeat("a ", api.MaxBody/2))
	gives(t, got, e, words("a"))
	got, e = privilege.Marks(words("a b"), strings.Repeat("a ", api.MaxBody/2)+"b")
	fails(t, e, api.ErrLarge, got)
}

// hasTerm says word by word whether a string has a term.
func hasTerm(term, text string) bool {
	want, all := words(term), near.Words(text)
	for i := range all {
		if i+len(want) <= len(all) && slices.Equal(all[i:i+len(want)], want) {
			return true
		}
	}
	return false
}

// P7.2: Marks is as the document's words say.
func TestMarksRandom(t *testing.T) {
	r := rand.New(rand.NewPCG(7, 2))
	for range 5_000 {
		var terms, want []string
		for range r.IntN(5) {
			terms = append(terms, strings.TrimSpace(pick(r, "a", "b", "ab")+" "+pick(r, "", "a", "b", "a b")))
		}
		slices.Sort(terms)
		terms = slices.Compact(terms)
		text := ""
		for range r.IntN(7) {
			text += pick(r, "a", "b", "A", "B") + pick(r, "", " ", "-", "\n")
		}
		for _, term := range terms {
			if hasTerm(term, text) {
				want = append(want, term)
			}
		}
		got, e := privilege.Marks(terms, text)
		gives(t, got, e, want)
	}
}

// Z2
func TestMarksKeep(t *testing.T) {
	terms := words("a b c rest")
	got, e := privilege.Marks(terms[:3], "c b a rest")
	gives(t, got, e, words("a b c"))
	got[0] = "?"
	_ = append(got, "?")
	is(t, privilege.CheckTerms(terms[:3]), api.OK)
	is(t, terms, words("a b c rest"))
}
