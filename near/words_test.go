package near_test

import (
	"math/rand/v2"
	"slices"
	"strings"
	"testing"

	"paperchase/near"
)

// P3.1
func TestWords(t *testing.T) {
	for text, want := range map[string][]string{
		"":                           nil,
		" \n,;-_\t\x00\x7f":          nil,
		"a":                          {"a"},
		"It's 9 o'Clock\u00e9!":      {"it", "s", "9", "o", "clock\u00e9"},
		"AZ az 09":                   {"az", "az", "09"},
		"a b\nc\td-e_f":              {"a", "b", "c", "d", "e", "f"},
		"@A[ `a{ /0:":                {"a", "a", "0"},
		"x x":                        {"x", "x"},
		"\u00c4\u00d6 \u212a":        {"\u00c4\u00d6", "\u212a"},
		"A\xffB\x80 \xc3(\xa0":       {"a\xffb\x80", "\xc3", "\xa0"},
		"a\u00a0b\u2003c\u3000\r.":   {"a\u00a0b\u2003c\u3000"},
		strings.Repeat("X", 200_000): {strings.Repeat("x", 200_000)},
	} {
		is(t, near.Words(text), want)
	}
	is(t, len(near.Words(strings.Repeat("a ", 100_000))), 100_000)
}

// wordsByBytes returns the words of a string, byte by byte.
func wordsByBytes(text string) []string {
	var l []string
	word := ""
	for i := range len(text) + 1 {
		c := byte(' ')
		if i < len(text) {
			c = text[i]
		}
		switch {
		case 'A' <= c && c <= 'Z':
			word += string(rune(c + 32))
		case 'a' <= c && c <= 'z' || '0' <= c && c <= '9' || c >= 128:
			word += text[i : i+1]
		case word != "":
			l = append(l, word)
			word = ""
		}
	}
	return l
}

// P3.1
func TestWordsOfAnything(t *testing.T) {
	r := rand.New(rand.NewPCG(3, 1))
	for range 5_000 {
		text := randomBytes(r, 20)
		is(t, near.Words(text), wordsByBytes(text))
	}
	for c := range 256 {
		text := "a" + string([]byte{byte(c)}) + "Z"
		is(t, near.Words(text), wordsByBytes(text))
	}
}

// P3.1
func TestTokens(t *testing.T) {
	for text, want := range map[string][]string{
		"":                nil,
		"   ":             nil,
		"a":               {"a"},
		" a,  b\n\nc ":    {"a,", "b", "\n", "\n", "c"},
		"\n":              {"\n"},
		" \n \n":          {"\n", "\n"},
		"a\nb":            {"a", "\n", "b"},
		"A\tb\r\n\x00":    {"A\tb\r", "\n", "\x00"},
		"\u00a0 \xff\xc3": {"\u00a0", "\xff\xc3"},
	} {
		is(t, near.Tokens(text), want)
	}
	is(t, len(near.Tokens(strings.Repeat("\n", 200_000))), 200_000)
}

// P3.1
func TestJoin(t *testing.T) {
	for _, c := range []struct {
		tokens []string
		want   string
	}{
		{nil, ""},
		{[]string{"a"}, "a"},
		{[]string{"a", "b"}, "a b"},
		{[]string{"a,", "b", "\n", "\n", "c"}, "a, b\n\nc"},
		{[]string{"\n", "a", "\n"}, "\na\n"},
		// For any strings: only a line feed alone is one.
		{[]string{"", ""}, " "},
		{[]string{"", "\n", ""}, "\n"},
		{[]string{"a\n", "\n\n", "b c"}, "a\n \n\n b c"},
		{[]string{" ", "\xff"}, "  \xff"},
	} {
		before := slices.Clone(c.tokens)
		is(t, near.Join(c.tokens), c.want)
		is(t, c.tokens, before)
	}
}

// P3.1: Join of Tokens has single blanks inside of lines and none at their ends.
func TestJoinOfTokens(t *testing.T) {
	r := rand.New(rand.NewPCG(3, 1))
	for range 5_000 {
		text := randomBytes(r, 20)
		lines := strings.Split(text, "\n")
		for i, line := range lines {
			for strings.Contains(line, "  ") {
				line = strings.ReplaceAll(line, "  ", " ")
			}
			lines[i] = strings.Trim(line, " ")
		}
		tokens := near.Tokens(text)
		joined := near.Join(tokens)
		is(t, joined, strings.Join(lines, "\n"))
		is(t, near.Tokens(joined), tokens)
	}
}
