package lines

import (
	"slices"
	"strings"
	"testing"

	"paperchase/api"
)

func TestWrite(t *testing.T) {
	var b strings.Builder
	Write(&b, "one")
	Write(&b, "a", "b", "c")
	if b.String() != "one\na b c\n" {
		t.Errorf("got %q", b.String())
	}
}

func TestWords(t *testing.T) {
	for line, want := range map[string][]string{
		"a\n":        {"a"},
		"a b c\n":    {"a", "b", "c"},
		"- \t\xff\n": {"-", "\t\xff"},
		"a\r\n":      {"a\r"},
	} {
		if got, ok := Words(line); !slices.Equal(got, want) || !ok {
			t.Errorf("%q: got %q, %v", line, got, ok)
		}
	}
	for _, line := range []string{"", "\n", "a", "a b", " \n", " a\n", "a \n", "a  b\n", "a b \n"} {
		if got, ok := Words(line); got != nil || ok {
			t.Errorf("%q: got %q, %v", line, got, ok)
		}
	}
}

func TestRead(t *testing.T) {
	for _, c := range []struct {
		text, taken string
		at          int
		e           api.Errno
	}{
		{"", "", 0, api.OK},
		{"a\n", "a;", 0, api.OK},
		{"a b\nc\n", "a b;c;", 0, api.OK},
		{"\n", "", 0, api.ErrSyntax},
		{"a", "", 0, api.ErrSyntax},
		{"a\nb  c\nd\n", "a;", 1, api.ErrSyntax},
		{"a\nb\nno\nc\n\n", "a;b;", 2, api.ErrSyntax},
		{"a\nb\nc", "a;b;", 2, api.ErrSyntax},
		{strings.Repeat("\n", api.MaxText+1), "", 0, api.ErrLarge},
		{strings.Repeat("x", api.MaxText-1) + "\n", strings.Repeat("x", api.MaxText-1) + ";", 0, api.OK},
	} {
		taken := ""
		at, e := Read(c.text, func(words []string) bool {
			if words[0] == "no" {
				return false
			}
			taken += strings.Join(words, " ") + ";"
			return true
		})
		if taken != c.taken || at != c.at || e != c.e {
			t.Errorf("%.20q: got %.20q, %d, %d", c.text, taken, at, e)
		}
	}
}

func TestEach(t *testing.T) {
	for _, c := range []struct {
		text, taken string
		at          int
		e           api.Errno
	}{
		{"", "", 0, api.OK},
		{"\n", ";", 0, api.OK},
		{" a  b \n\nc\r\n", " a  b ;;c\r;", 0, api.OK},
		{"a", "", 0, api.ErrSyntax},
		{"a\nb\nc", "a;b;", 2, api.ErrSyntax},
		{"a\nno\nc", "a;", 1, api.ErrSyntax},
		{strings.Repeat("x", api.MaxText-1) + "\n", strings.Repeat("x", api.MaxText-1) + ";", 0, api.OK},
		{strings.Repeat("x", api.MaxText) + "\n", "", 0, api.ErrLarge},
	} {
		taken := ""
		at, e := Each(c.text, func(line string) bool {
			if line == "no" {
				return false
			}
			taken += line + ";"
			return true
		})
		if taken != c.taken || at != c.at || e != c.e {
			t.Errorf("%.20q: got %.20q, %d, %d", c.text, taken, at, e)
		}
	}
}
