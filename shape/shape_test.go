package shape

import (
	"strings"
	"testing"

	"paperchase/api"
)

func TestKey(t *testing.T) {
	for _, s := range []string{"a", "z", "a-b_9", strings.Repeat("k", api.MaxName)} {
		if !Key(s) {
			t.Errorf("%q is a key", s)
		}
	}
	for _, s := range []string{"", "A", "9a", "-a", "_a", "a b", "aB", "a.", "ä", "a\n", strings.Repeat("k", api.MaxName+1)} {
		if Key(s) {
			t.Errorf("%q is no key", s)
		}
	}
}

func TestPlain(t *testing.T) {
	for _, s := range []string{"", "a", "a b c", "Größe", "\u0080", "\U0010ffff", "~"} {
		if !Plain(s) {
			t.Errorf("%q is plain", s)
		}
	}
	for _, s := range []string{" ", " a", "a ", "a  b", "a\nb", "a\n", "\t", "a\x1f", "\x7f", "\xff", "\xc3", "\xed\xa0\x80", "\xc0\x80", "\xf4\x90\x80\x80"} {
		if Plain(s) {
			t.Errorf("%q is not plain", s)
		}
	}
}

func TestText(t *testing.T) {
	for _, s := range []string{"", "\n", "a\n", "  a  b \n\n", "é\n"} {
		if !Text(s) {
			t.Errorf("%q is a text", s)
		}
	}
	for _, s := range []string{"a", "a\nb", "\t\n", "\r\n", "\x00\n", "\x7f\n", "\xff\n", "\xed\xa0\x80\n"} {
		if Text(s) {
			t.Errorf("%q is no text", s)
		}
	}
}

func TestLine(t *testing.T) {
	for _, s := range []string{"", "a", " a  b ", "Größe", "\u0080", "\U0010ffff", "~"} {
		if !Line(s) || !Printed(s) {
			t.Errorf("%q is a line", s)
		}
	}
	for _, s := range []string{"\n", "a\nb", " \n\n"} {
		if Line(s) || !Printed(s) {
			t.Errorf("%q is printed, and no line", s)
		}
	}
	for _, s := range []string{"\t", "a\x00", "a\x1f", "\x7f", "\xff", "\xc3", "\xed\xa0\x80", "\xc0\x80", "\xf4\x90\x80\x80"} {
		if Line(s) || Printed(s) {
			t.Errorf("%q is not printed", s)
		}
	}
}

func TestCheckBody(t *testing.T) {
	for s, want := range map[string]api.Errno{
		"": api.OK, "a\n": api.OK, strings.Repeat("\n", api.MaxBody): api.OK,
		strings.Repeat("\n", api.MaxBody+1): api.ErrLarge, strings.Repeat("a", api.MaxBody+1): api.ErrLarge,
		"a": api.ErrForm, "\t\n": api.ErrForm, "\xff\n": api.ErrForm, strings.Repeat("a", api.MaxBody): api.ErrForm,
	} {
		if e := CheckBody(s); e != want {
			t.Errorf("%.20q: %d, want %d", s, e, want)
		}
	}
}

func TestMoment(t *testing.T) {
	for at, want := range map[int]bool{-1: false, 0: true, api.End - 1: true, api.End: false} {
		if Moment(at) != want {
			t.Errorf("%d: not %v", at, want)
		}
	}
}

func TestWindow(t *testing.T) {
	for w, want := range map[api.Window]bool{
		{}: true, {From: 5, To: 5}: true, {To: api.End}: true, {From: api.End, To: api.End}: true, {From: 3, To: 9}: true,
		{From: -1}: false, {From: 6, To: 5}: false, {To: api.End + 1}: false, {From: api.End + 1, To: api.End + 1}: false, {From: -2, To: -1}: false,
	} {
		if Window(w) != want {
			t.Errorf("%v: not %v", w, want)
		}
	}
}

func TestNumber(t *testing.T) {
	for s, want := range map[string]int{"0": 0, "7": 7, "-7": -7, "10": 10, "999999999": 999_999_999, "-999999999": -999_999_999} {
		if n, ok := Number(s); n != want || !ok {
			t.Errorf("%q: %d, %v", s, n, ok)
		}
	}
	for _, s := range []string{"", "-", "-0", "+1", "01", "-01", "00", "1 ", " 1", "1_0", "0x1", "a", "1.0", "1000000000", "-1000000000", "99999999999999999999"} {
		if n, ok := Number(s); n != 0 || ok {
			t.Errorf("%q: %d, %v", s, n, ok)
		}
	}
}

func TestKinds(t *testing.T) {
	for kind, word := range map[int]string{api.ItemMail: "mail", api.ItemFile: "file", api.ItemBox: "box", api.ItemNote: "note"} {
		if KindWord(kind) != word {
			t.Errorf("%d: %q", kind, KindWord(kind))
		}
		if n, ok := Kind(word); n != kind || !ok {
			t.Errorf("%q: %d, %v", word, n, ok)
		}
	}
	for kind, want := range map[int]bool{-1: false, 0: false, api.ItemMail: true, api.ItemNote: true, 5: false} {
		if IsKind(kind) != want {
			t.Errorf("%d: not %v", kind, want)
		}
	}
	if KindWord(0) != "" || KindWord(5) != "" || KindWord(-1) != "" {
		t.Error("there are no such kinds")
	}
	for _, s := range []string{"", "Mail", "mails"} {
		if n, ok := Kind(s); n != 0 || ok {
			t.Errorf("%q: %d, %v", s, n, ok)
		}
	}
}

func TestNamed(t *testing.T) {
	wordOf := func(n int) string { return strings.Repeat("x", n) }
	for word, want := range map[string]int{"x": 1, "xxx": 3} {
		if n, ok := Named(word, wordOf, 3, 1); n != want || !ok {
			t.Errorf("%q: %d, %v", word, n, ok)
		}
	}
	for _, word := range []string{"", "xx", "xxxx", "y"} {
		if n, ok := Named(word, wordOf, 3, 1); n != 0 || ok {
			t.Errorf("%q: %d, %v", word, n, ok)
		}
	}
}

func TestSmall(t *testing.T) {
	for s, want := range map[string]string{"": "", "AZaz09@[`{": "azaz09@[`{", "Äé\u212a": "Äé\u212a", "X\xffY\n": "x\xffy\n"} {
		if Small(s) != want {
			t.Errorf("%q: %q", s, Small(s))
		}
	}
}

func TestWordByte(t *testing.T) {
	for c := range 256 {
		want := c >= 128 || strings.IndexByte("0123456789ABCDEFGHIJKLMNOPQRSTUVWXYZabcdefghijklmnopqrstuvwxyz", byte(c)) >= 0
		if WordByte(byte(c)) != want {
			t.Errorf("%d: not %v", c, want)
		}
	}
}

func TestAddress(t *testing.T) {
	long := strings.Repeat("a", 40) + "@" + strings.Repeat("b", 30) + "." + strings.Repeat("c", 8)
	for _, s := range []string{"a@b.de", "a.b-c_d+9@b-9.c.de", ".@-.-", "z@a." + strings.Repeat("z", 30), long} {
		if !Address(s) {
			t.Errorf("%q is an address", s)
		}
	}
	for _, s := range []string{
		"", "@", "a", "a@", "@b.de", "a@b", "a@.de", "a@b.", "a@b..de", "a@b@c.de", "a@b.de@", "A@b.de", "a@B.de", "a b@c.de", "a@b_c.de", "a@b+c.de", "ä@b.de", "a@b.dé", "a!@b.de", "a@b.de\n", "<a@b.de>",
		long + "c", "a" + long[1:40] + "a" + "@b.de", "a@" + strings.Repeat("b", 31) + ".de", "a@b." + strings.Repeat("z", 31),
	} {
		if Address(s) {
			t.Errorf("%q is no address", s)
		}
	}
}

func TestMessageId(t *testing.T) {
	for _, s := range []string{"!", "~", "a@b.de", "A=?;:\"'", strings.Repeat("i", 80)} {
		if !MessageId(s) {
			t.Errorf("%q is a message id", s)
		}
	}
	for _, s := range []string{"", " ", "a b", "a\n", "<", ">", "<a>", "\x7f", "\x00", "é", "\xff", strings.Repeat("i", 81)} {
		if MessageId(s) {
			t.Errorf("%q is no message id", s)
		}
	}
}
