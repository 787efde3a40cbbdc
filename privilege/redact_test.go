package privilege_test

import (
	"math/rand/v2"
	"strings"
	"testing"
	"unicode/utf8"

	"paperchase/api"
	"paperchase/near"
	"paperchase/privilege"
	"paperchase/query"
)

// eachBadCovered calls a function with texts and spans of which one is wrong.
func eachBadCovered(t *testing.T, call func(text string, l []api.Span) (api.Errno, []any)) {
	t.Helper()
	eachBadText(t, func(text string) (api.Errno, []any) { return call(text, manySpans(api.MaxSpans + 2)[1:]) })
	eachBadText(t, func(text string) (api.Errno, []any) { return call(text, spans("0 0")) })
	text := "one two three\n"
	eachBadSpans(t, len(text), func(l []api.Span) (api.Errno, []any) { return call(text, l) })
	e, results := call("", spans("0 1"))
	fails(t, e, api.ErrArg, results...)
}

// P7.6
func TestWiden(t *testing.T) {
	for _, c := range []struct{ text, l, want string }{
		{"", "", ""},
		{"see the memo\n", "5 7", "4 7"}, // the example of the document
		{"see the memo\n", "", ""},
		{"see the memo\n", "5 6", "4 7"},
		{"see the memo\n", "4 7", "4 7"},
		{"see the memo\n", "3 4", "3 4"},
		{"see the memo\n", "3 5", "3 7"},
		{"see the memo\n", "2 3", "0 3"},
		{"see the memo\n", "2 4", "0 4"},
		{"see the memo\n", "1 2 5 6", "0 3 4 7"},
		{"see the memo\n", "2 5", "0 7"},
		{"see the memo\n", "0 1 2 3", "0 3"},            // they overlap
		{"see the memo\n", "0 1 3 4", "0 4"},            // they touch
		{"see the memo\n", "2 3 4 5", "0 3 4 7"},        // a blank is between
		{"see the memo\n", "3 4 6 7 11 12", "3 7 8 12"}, // the blank, and the word after it
		{"see the memo\n", "11 13", "8 13"},
		{"see the memo\n", "12 13", "12 13"},
		{"a-b c\n", "1 2", "1 2"},
		{"a-b c\n", "0 1", "0 1"},
		{"Xé7ö-\n", "2 3", "0 6"},
		{"é \U0001f600 -\n", "4 5", "3 7"},
		{"\U0001f600\n", "1 2", "0 4"},
		{"\U0001f600\n", "4 5", "4 5"},
	} {
		got, e := privilege.Widen(c.text, spans(c.l))
		gives(t, got, e, spans(c.want))
	}
	eachBadCovered(t, func(text string, l []api.Span) (api.Errno, []any) {
		got, e := privilege.Widen(text, l)
		return e, []any{got}
	})
	text := strings.Repeat("x", api.MaxBody-1) + "\n"
	got, e := privilege.Widen(text, manySpans(api.MaxSpans))
	gives(t, got, e, []api.Span{{From: 0, To: api.MaxBody - 1}})
	text = strings.Repeat("- ", api.MaxBody/2-1) + "-\n"
	got, e = privilege.Widen(text, manySpans(api.MaxSpans))
	gives(t, got, e, manySpans(api.MaxSpans))
}

// P7.6
func TestRedact(t *testing.T) {
	for _, c := range []struct{ text, l, want string }{
		{"", "", ""},
		{"see the memo\n", "", "see the memo\n"},
		{"see the memo\n", "4 7", "see ### memo\n"}, // the example of the document
		{"see the memo\n", "5 7", "see t## memo\n"},
		{"see the memo\n", "2 5", "se# #he memo\n"},
		{"see\nthe  memo\n", "0 14", "###\n###  ####\n"},
		{"see the memo\n", "0 1 3 4 12 13", "#ee the memo\n"},
		{"a.#-\n", "0 4", "####\n"},
		{"xéy\n", "1 2", "x##y\n"},
		{"xéy\n", "2 3", "x##y\n"},
		{"xéy\n", "0 1", "#éy\n"},
		{"xéy\n", "3 4", "xé#\n"},
		{"\U0001f600\U0001f600é\n", "3 5", "########é\n"},
		{"\U0001f600\n", "0 1 3 4", "####\n"},
	} {
		got, e := privilege.Redact(c.text, spans(c.l))
		gives(t, got, e, c.want)
	}
	eachBadCovered(t, func(text string, l []api.Span) (api.Errno, []any) {
		got, e := privilege.Redact(text, l)
		return e, []any{got}
	})
}

// P7.6
func TestSeen(t *testing.T) {
	for _, c := range []struct{ text, l, want string }{
		{"", "", ""},
		{"See the Memo\n", "", "see the memo"},
		{"See the Memo\n", "4 7", "see memo"},
		{"See the Memo\n", "5 6", "see t e memo"},
		{"See the Memo\n", "1 10", "s mo"},
		{"See the Memo\n", "0 13", ""},
		{"See the Memo\n", "3 4 7 8", "see the memo"},
		{"memo\nmemo\n", "1 2 7 8", "m mo me o"},
		{"xéy\n", "2 3", "x y"},
		{"xéé\n", "2 3", "x é"},
		{"\U0001f600é\n", "0 1 3 4", "é"},
		{"éé\n", "0 1 2 3", ""},
	} {
		got, e := privilege.Seen(c.text, spans(c.l))
		gives(t, got, e, words(c.want))
	}
	eachBadCovered(t, func(text string, l []api.Span) (api.Errno, []any) {
		got, e := privilege.Seen(text, l)
		return e, []any{got}
	})
}

// P7.6
func TestLeaks(t *testing.T) {
	for _, c := range []struct{ text, l, want string }{
		{"", "", ""},
		{"memo memo\n", "", ""},
		{"memo Memo MEMO\n", "5 9", "0 4 10 14"},
		{"the the memo\n", "0 3", ""}, // too short
		{"äö äö äö\n", "0 4", "5 9 10 14"},
		{"memo memos amemo\n", "0 4", ""},
		{"memos memo\n", "0 4", "6 10"}, // a part of a word is covered
		{"memos memo\n", "2 3", ""},
		{"xmemox memo\n", "1 5", "7 11"},
		{"memo memo\n", "0 4 5 6", ""}, // of the second one a part is covered
		{"memo memo\n", "0 4 8 9", ""},
		{"memo xmemo memo\n", "0 4 5 6", "11 15"},
		{"me mo memo\n", "0 5", ""},
		{"me-mo memo\n", "0 5", ""},
		{"memo memo\n", "0 2 3 4", ""}, // words of each span by itself
		{"xéé éé\n", "1 2 3 4", ""},
		{"xéé éé\n", "1 4", "6 10"}, // the whole code points
		{"say plan, deal.\nDEAL-plan\n", "4 15", "16 20 21 25"},
		{"plan plan\n", "0 9", ""},
	} {
		got, e := privilege.Leaks(c.text, spans(c.l))
		gives(t, got, e, spans(c.want))
	}
	eachBadCovered(t, func(text string, l []api.Span) (api.Errno, []any) {
		got, e := privilege.Leaks(text, l)
		return e, []any{got}
	})
	text := strings.Repeat("memo\n", api.MaxSpans+1)
	got, e := privilege.Leaks(text, spans("0 4"))
	is(t, []any{len(got), got[0], got[api.MaxSpans-1], e}, []any{api.MaxSpans, api.Span{From: 5, To: 9}, api.Span{From: 5_000, To: 5_004}, api.OK})
	got, e = privilege.Leaks(text+"memo\n", spans("0 4"))
	fails(t, e, api.ErrLarge, got)
}

// P7.6
func TestFind(t *testing.T) {
	for _, c := range []struct{ text, phrases, want string }{
		{"", "", ""},
		{"", "a", ""},
		{"memo\n", "", ""},
		{"Memo, memos\n", "memo", "0 4 6 10"},
		{"memo MEMO\n", "mEmO", "0 4 5 9"},
		{"aaa\n", "aa", "0 3"},
		{"aaaa\n", "aa", "0 4"},
		{"aabaa\n", "aa", "0 2 3 5"},
		{"abab\n", "ab", "0 4"}, // they touch
		{"abab\n", "aba;bab", "0 4"},
		{"abc abc\n", "bc;ab", "0 3 4 7"},
		{"abc abc\n", "c a", "2 5"},
		{"abc abc\n", "abc abc;b", "0 7"},
		{"abc abc\n", "b;abc abc", "0 7"},
		{"abc abc\n", "x;abd", ""},
		{"a b\nc\n", "b\nc;\n", "2 6"},
		{"ÄäÖ\n", "ä", "2 4"}, // only A to Z are alike
		{"äö\n", "\xa4", "1 2"},
		{"äö\n", "\xc3", "0 1 2 3"},
		{"a\n", "a\n;a\nb", "0 2"},
	} {
		got, e := privilege.Find(c.text, parts(c.phrases))
		gives(t, got, e, spans(c.want))
	}
	long := strings.Repeat("x", 200)
	got, e := privilege.Find(long+"\n", []string{strings.ToUpper(long)})
	gives(t, got, e, spans("0 200"))
	got, e = privilege.Find(long+"\n", names("x", api.MaxTerms))
	gives(t, got, e, spans(""))
}

// P7.6
func TestFindErrors(t *testing.T) {
	eachBadText(t, func(text string) (api.Errno, []any) {
		got, e := privilege.Find(text, make([]string, api.MaxTerms+1))
		return e, []any{got}
	})
	eachBadText(t, func(text string) (api.Errno, []any) {
		got, e := privilege.Find(text, make([]string, 1))
		return e, []any{got}
	})
	got, e := privilege.Find("a\n", make([]string, api.MaxTerms+1))
	fails(t, e, api.ErrLarge, got)
	for _, l := range [][]string{{""}, {"a", ""}, {strings.Repeat("x", 201)}, {"a", strings.Repeat("x", 201)}} {
		got, e := privilege.Find("a\n", l)
		fails(t, e, api.ErrForm, got)
	}
	text := strings.Repeat("a-", api.MaxSpans) + "\n"
	got, e = privilege.Find(text, words("a"))
	gives(t, got, e, manySpans(api.MaxSpans))
	got, e = privilege.Find("a"+"-"+text, words("a"))
	fails(t, e, api.ErrLarge, got)
	got, e = privilege.Find("a"+"-"+text, words("a -"))
	gives(t, got, e, []api.Span{{From: 0, To: 2*api.MaxSpans + 2}})
	got, e = privilege.Find("a"+"-"+text, []string{"a", ""})
	fails(t, e, api.ErrForm, got)
}

// pointMask says of each byte whether the code point to which it belongs is covered.
func pointMask(text string, l []api.Span) []bool {
	mask, points := maskOf(l, len(text)), make([]bool, len(text))
	for at, c := range text {
		covered := false
		for i := range utf8.RuneLen(c) {
			covered = covered || mask[at+i]
		}
		for i := range utf8.RuneLen(c) {
			points[at+i] = covered
		}
	}
	return points
}

// wordMask says of each byte whether it is in spans, or in a word with such a byte.
func wordMask(text string, l []api.Span) []bool {
	mask := maskOf(l, len(text))
	for _, w := range query.Words(text) {
		covered := false
		for i := w.From; i < w.To; i++ {
			covered = covered || mask[i]
		}
		for i := w.From; i < w.To; i++ {
			mask[i] = covered
		}
	}
	return mask
}

// P7.6: what is covered is as the document's words say, byte by byte.
func TestRedactRandom(t *testing.T) {
	r := rand.New(rand.NewPCG(7, 6))
	for range 10_000 {
		text := randomText(r, 9)
		l := randomSpans(r, len(text))
		points := pointMask(text, l)
		widened, e := privilege.Widen(text, l)
		gives(t, widened, e, spansOf(wordMask(text, l)))
		is(t, privilege.CheckSpans(widened, len(text)), api.OK)

		want, open := []byte(text), []byte(text)
		for i := range want {
			if points[i] && want[i] != ' ' && want[i] != '\n' {
				want[i] = '#'
			}
			if points[i] {
				open[i] = '-'
			}
		}
		redacted, e := privilege.Redact(text, l)
		gives(t, redacted, e, string(want))
		seen, e := privilege.Seen(text, l)
		gives(t, seen, e, near.Words(string(open)))

		hidden := map[string]bool{}
		for _, s := range l {
			one := pointMask(text, []api.Span{s})
			part := ""
			for i := range len(text) {
				if one[i] {
					part += text[i : i+1]
				}
			}
			for _, word := range near.Words(part) {
				hidden[word] = true
			}
		}
		var leaks []api.Span
		for _, w := range query.Words(text) {
			whole := w.To-w.From >= 4
			for i := w.From; i < w.To; i++ {
				whole = whole && !points[i]
			}
			if whole && hidden[w.Word] {
				leaks = append(leaks, w.Span)
			}
		}
		got, e := privilege.Leaks(text, l)
		gives(t, got, e, leaks)
		is(t, privilege.CheckSpans(got, len(text)), api.OK)
	}
}

// P7.6: Redact with Union is Redact of Redact; of a string covered as a whole no word is seen.
func TestRedactTwice(t *testing.T) {
	r := rand.New(rand.NewPCG(7, 66))
	for range 5_000 {
		text := randomText(r, 9)
		a, b := randomSpans(r, len(text)), randomSpans(r, len(text))
		union, e := privilege.Union(a, b, len(text))
		is(t, e, api.OK)
		once, e := privilege.Redact(text, union)
		is(t, e, api.OK)
		first, e := privilege.Redact(text, a)
		is(t, e, api.OK)
		twice, e := privilege.Redact(first, b)
		gives(t, twice, e, once)
		if text != "" {
			all := []api.Span{{From: 0, To: len(text)}}
			seen, e := privilege.Seen(text, all)
			gives(t, seen, e, []string{})
			blank, e := privilege.Redact(text, all)
			is(t, []any{len(near.Words(blank)), e}, []any{0, api.OK})
		}
	}
}

// P7.6: Find is as the document's words say, byte by byte.
func TestFindRandom(t *testing.T) {
	r := rand.New(rand.NewPCG(7, 67))
	for range 10_000 {
		text := randomText(r, 9)
		var phrases []string
		for range r.IntN(4) {
			phrases = append(phrases, pick(r, "a", "b", "é", "\xc3", " ", "MEMO", "em", "o", "öl", "Öl", "\n", "7")+pick(r, "", "", "a", "\xa9", " ", "memo"))
		}
		small := []byte(text)
		for i, c := range small {
			if 'A' <= c && c <= 'Z' {
				small[i] = c + 32
			}
		}
		mask := make([]bool, len(text))
		for _, phrase := range phrases {
			phrase = strings.NewReplacer("M", "m", "E", "e", "O", "o").Replace(phrase)
			for at := range len(text) {
				if strings.HasPrefix(string(small[at:]), phrase) {
					for i := range len(phrase) {
						mask[at+i] = true
					}
				}
			}
		}
		// Places that touch are one, as bytes next to each other are.
		got, e := privilege.Find(text, phrases)
		gives(t, got, e, spansOf(mask))
	}
}

// Z2
func TestRedactKeep(t *testing.T) {
	text := "one Two three one two\n"
	keepsSpans(t, func(l []api.Span) []api.Span {
		got, e := privilege.Widen(text, l)
		gives(t, got, e, spans("0 3 4 7 8 13"))
		redacted, e := privilege.Redact(text, l)
		gives(t, redacted, e, "o## T#o t###e one two\n")
		_, e = privilege.Seen(text, l)
		is(t, e, api.OK)
		_, e = privilege.Leaks(text, l)
		is(t, e, api.OK)
		return got
	})
	keepsSpans(t, func(l []api.Span) []api.Span {
		got, e := privilege.Widen("- - - - - - - -\n", l)
		gives(t, got, e, spans("1 3 5 6 9 12"))
		return got
	})
	phrases := words("one TWO rest")
	got, e := privilege.Find(text, phrases[:2])
	gives(t, got, e, spans("0 3 4 7 14 17 18 21"))
	is(t, phrases, words("one TWO rest"))
}
