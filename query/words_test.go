package query_test

import (
	"math/rand/v2"
	"strings"
	"testing"

	"paperchase/api"
	"paperchase/query"
)

func spanned(from, to int, word string) api.Word {
	return api.Word{Span: api.Span{From: from, To: to}, Word: word}
}

// P4.1
func TestWords(t *testing.T) {
	for text, want := range map[string][]api.Word{
		"":                           nil,
		" \n,;-_?*\t\x00\x7f":        nil,
		"a":                          {spanned(0, 1, "a")},
		"It's 9 o'Clock.\n":          {spanned(0, 2, "it"), spanned(3, 4, "s"), spanned(5, 6, "9"), spanned(7, 8, "o"), spanned(9, 14, "clock")},
		"x x":                        {spanned(0, 1, "x"), spanned(2, 3, "x")},
		"@AZ[`az{/09:":               {spanned(1, 3, "az"), spanned(5, 7, "az"), spanned(9, 11, "09")},
		"\u00c4b \xff\x80A":          {spanned(0, 3, "\u00c4b"), spanned(4, 7, "\xff\x80a")},
		"a\u00a0b":                   {spanned(0, 4, "a\u00a0b")},
		strings.Repeat("X", 200_000): {spanned(0, 200_000, xs(200_000))},
	} {
		is(t, query.Words(text), want)
	}
	is(t, len(query.Words(strings.Repeat("a ", 100_000))), 100_000)
}

// P4.1: each byte alone is in a word or between.
func TestWordsOfBytes(t *testing.T) {
	for c := range 256 {
		b := byte(c)
		s := string([]byte{b})
		inside := '0' <= b && b <= '9' || 'a' <= b && b <= 'z' || 'A' <= b && b <= 'Z' || b >= 128
		small := s
		if b < 128 {
			small = strings.ToLower(s)
		}
		want := []api.Word{spanned(0, 1, "a"), spanned(2, 3, "z")}
		if inside {
			want = []api.Word{spanned(0, 3, "a"+small+"z")}
		}
		is(t, query.Words("a"+s+"Z"), want)
		is(t, query.IsPattern(s), inside && s == small)
		is(t, query.IsPattern("a"+s), inside && s == small || s == "?" || s == "*")
		is(t, query.IsPattern("a"+s+"a"), inside && s == small || s == "?")
		is(t, query.Fits("a?", "a"+s), true)
		is(t, query.Fits("a*", "a"+s), true)
	}
}

// P4.1
func TestIsPattern(t *testing.T) {
	for s, want := range map[string]bool{
		"":                       false,
		"a":                      true,
		"9":                      true,
		"\u00e9":                 true,
		"\xff":                   true,
		"sign*":                  true,
		"a*":                     true,
		"s?gn":                   true,
		"a?":                     true,
		"a??*":                   true,
		"and":                    true,
		"?":                      false,
		"*":                      false,
		"?a":                     false,
		"*a":                     false,
		"a**":                    false,
		"a*b":                    false,
		"a*?":                    false,
		"A":                      false,
		"aB":                     false,
		"a b":                    false,
		"a-b":                    false,
		"a_b":                    false,
		"a\n":                    false,
		xs(api.MaxWord):          true,
		xs(api.MaxWord + 1):      false,
		xs(api.MaxWord-1) + "*":  true,
		xs(api.MaxWord) + "*":    false,
		strings.Repeat("é", 20):  true,
		strings.Repeat("é", 21):  false,
		strings.Repeat("x", 2e5): false,
	} {
		if query.IsPattern(s) != want {
			t.Errorf("%q: not %v", s, want)
		}
	}
}

// P4.1
func TestFits(t *testing.T) {
	for _, c := range []struct {
		pattern, word string
		want          bool
	}{
		{"sign", "sign", true},
		{"sign", "signs", false},
		{"sign", "sig", false},
		{"sign", "sigh", false},
		{"sign*", "sign", true},
		{"sign*", "signed", true},
		{"sign*", "sig", false},
		{"sign*", "design", false},
		{"s?gn", "sign", true},
		{"s?gn", "s\xffgn", true},
		{"s?gn", "sgn", false},
		{"s??gn", "s\u00e9gn", true}, // bytes, not letters
		{"s?gn", "s\u00e9gn", false},
		{"a?", "a", false},
		{"a?*", "a", false},
		{"a?*", "ab", true},
		{"a?*", "abcd", true},
		{"a*", "a" + xs(200_000), true},
		{"a", "", false},
		{"a*", "", false},
		{"a", "A", false},
		{"*", "a", false},
		{"*x", "x", false},
		{"?", "a", false},
		{"", "", false},
		{"A", "A", false},
		{"a**", "a", false},
		{xs(api.MaxWord + 1), xs(api.MaxWord + 1), false},
	} {
		if query.Fits(c.pattern, c.word) != c.want {
			t.Errorf("%q, %q: not %v", c.pattern, c.word, c.want)
		}
	}
}

// P4.1: against regular expressions.
func TestFitsOfAnything(t *testing.T) {
	r := rand.New(rand.NewPCG(4, 1))
	for range 2_000 {
		pattern, word := randomPattern(r), ""
		for range r.IntN(4) {
			word += pick(r, "a", "b", "c")
		}
		is(t, query.Fits(pattern, word), fitting(pattern, word))
	}
}
