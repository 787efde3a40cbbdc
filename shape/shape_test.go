package shape

import (
	"strings"
	"testing"

	"paperchase/api"
)

func TestKey(t *testing.T) {
	for _, s := range []string{"a", "z", "a-b_9", strings.Repeat("k", api.MaxName)} {
		if !Key(s) {
			t.Errorf("%q is a key", s)
		}
	}
	for _, s := range []string{"", "A", "9a", "-a", "_a", "a b", "aB", "a.", "ä", "a\n", strings.Repeat("k", api.MaxName+1)} {
		if Key(s) {
			t.Errorf("%q is no key", s)
		}
	}
}

func TestPlain(t *testing.T) {
	for _, s := range []string{"", "a", "a b c", "Größe", "\u0080", "\U0010ffff", "~"} {
		if !Plain(s) {
			t.Errorf("%q is plain", s)
		}
	}
	for _, s := range []string{" ", " a", "a ", "a  b", "a\nb", "a\n", "\t", "a\x1f", "\x7f", "\xff", "\xc3", "\xed\xa0\x80", "\xc0\x80", "\xf4\x90\x80\x80"} {
		if Plain(s) {
			t.Errorf("%q is not plain", s)
		}
	}
}

func TestText(t *testing.T) {
	for _, s := range []string{"", "\n", "a\n", "  a  b \n\n", "é\n"} {
		if !Text(s) {
			t.Errorf("%q is a text", s)
		}
	}
	for _, s := range []string{"a", "a\nb", "\t\n", "\r\n", "\x00\n", "\x7f\n", "\xff\n", "\xed\xa0\x80\n"} {
		if Text(s) {
			t.Errorf("%q is no text", s)
		}
	}
}

func TestMoment(t *testing.T) {
	for at, want := range map[int]bool{-1: false, 0: true, api.End - 1: true, api.End: false} {
		if Moment(at) != want {
			t.Errorf("%d: not %v", at, want)
		}
	}
}

func TestNumber(t *testing.T) {
	for s, want := range map[string]int{"0": 0, "7": 7, "-7": -7, "10": 10, "999999999": 999_999_999, "-999999999": -999_999_999} {
		if n, ok := Number(s); n != want || !ok {
			t.Errorf("%q: %d, %v", s, n, ok)
		}
	}
	for _, s := range []string{"", "-", "-0", "+1", "01", "-01", "00", "1 ", " 1", "1_0", "0x1", "a", "1.0", "1000000000", "-1000000000", "99999999999999999999"} {
		if n, ok := Number(s); n != 0 || ok {
			t.Errorf("%q: %d, %v", s, n, ok)
		}
	}
}

func TestKinds(t *testing.T) {
	for kind, word := range map[int]string{api.ItemMail: "mail", api.ItemFile: "file", api.ItemBox: "box", api.ItemNote: "note"} {
		if KindWord(kind) != word {
			t.Errorf("%d: %q", kind, KindWord(kind))
		}
		if n, ok := Kind(word); n != kind || !ok {
			t.Errorf("%q: %d, %v", word, n, ok)
		}
	}
	if KindWord(0) != "" || KindWord(5) != "" || KindWord(-1) != "" {
		t.Error("there are no such kinds")
	}
	for _, s := range []string{"", "Mail", "mails"} {
		if n, ok := Kind(s); n != 0 || ok {
			t.Errorf("%q: %d, %v", s, n, ok)
		}
	}
}
