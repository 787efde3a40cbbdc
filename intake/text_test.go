package intake_test

import (
	"math/rand/v2"
	"strconv"
	"strings"
	"testing"

	"paperchase/api"
	"paperchase/intake"
)

// P1.8
func TestText(t *testing.T) {
	l := []api.Item{
		{Id: "a", Custodian: "ann", Kind: api.ItemMail, Name: `Über "all"`, At: 0, Text: "\n|\n  two\n"},
		{Id: "b", Custodian: "bob", Kind: api.ItemBox, At: api.End - 1, Parent: "a"},
		{Id: "c", Custodian: "bob", Kind: api.ItemFile, Name: "c", At: 10, Parent: "b", Text: "item\n"},
		{Id: "d", Custodian: "ann", Kind: api.ItemNote, Name: "d", At: 7, Text: "é\n"},
	}
	want := `item a ann mail 0 - "\xc3\x9cber\x20\"all\"" 3` + "\n|\n||\n|  two\n" +
		"item b bob box 5761439 a \"\" 0\n" +
		"item c bob file 10 b \"c\" 1\n|item\n" +
		"item d ann note 7 - \"d\" 1\n|é\n"
	s, e := intake.Text(l)
	is(t, []any{s, e}, []any{want, api.OK})
	back, n, e := intake.Read(s)
	is(t, []any{back, n, e}, []any{l, 0, api.OK})
	s, e = intake.Text(nil)
	is(t, []any{s, e}, []any{"", api.OK})
	back, n, e = intake.Read("")
	is(t, []any{len(back), n, e}, []any{0, 0, api.OK})
}

// P1.8: what Text writes has at most MaxText bytes, and Read takes all of it.
func TestTextBound(t *testing.T) {
	var l []api.Item
	for i := range 10 {
		l = append(l, item(name("x", i), "ann", api.ItemFile, "", strings.Repeat("a", 19_940)+"\n"))
	}
	s, _ := intake.Text(l)
	room := api.MaxText - len(s)
	l[9].Text = strings.Repeat("a", room) + l[9].Text
	s, e := intake.Text(l)
	is(t, []any{len(s), e}, []any{api.MaxText, api.OK})
	back, n, e := intake.Read(s)
	is(t, []any{back, n, e}, []any{l, 0, api.OK})
	l[9].Text = "a" + l[9].Text
	s, e = intake.Text(l)
	fails(t, e, api.ErrLarge, s)
	var full []api.Item
	for i := range api.MaxItems {
		full = append(full, item(name("x", i), "ann", api.ItemFile, "", strings.Repeat("\n", api.MaxBody)))
	}
	s, e = intake.Text(full)
	fails(t, e, api.ErrLarge, s)
}

// P1.8
func TestReadSyntax(t *testing.T) {
	good := "item d bob file 100 - \"x\" 2\n|one\n|two\n"
	for _, c := range []struct {
		line int
		text string
	}{
		{0, "\n"},
		{0, "x"},
		{0, "|one\n"},
		{0, good[:27]},
		{2, good[:33]},
		{2, good[:34]},
		{2, good[:len(good)-1]},
		{1, good[:28]},
		{3, good + "|three\n"},
		{3, good + "\n"},
		{3, good + "item d bob file 100 - \"x\" 0"},
		{3, good + good[:27]},
		{1, good[:28] + "one\n"},
		{1, good[:28] + "\n|two\n"},
		{1, good[:28] + good},
		{1, "item d bob file 100 - \"x\" 999999999\n"},
		{2, "item d bob file 100 - \"x\" 999999999\n|\n"},
	} {
		l, n, e := intake.Read(c.text)
		fails(t, e, api.ErrSyntax, l)
		if n != c.line {
			t.Errorf("%q: line %d, want %d", c.text, n, c.line)
		}
	}
}

// P1.8: the forms of the words of the line of an item.
func TestReadHead(t *testing.T) {
	for _, line := range []string{
		"item d bob file 100 - \"x\"", "item d bob file 100 - \"x\" 0 0", "item d bob file 100 - \"x\" 0 ",
		" item d bob file 100 - \"x\" 0", "item  d bob file 100 - \"x\" 0", "Item d bob file 100 - \"x\" 0",
		"item  bob file 100 - \"x\" 0", "item d  file 100 - \"x\" 0", "item d bob  100 - \"x\" 0",
		"item d bob file  - \"x\" 0", "item d bob file 100  \"x\" 0", "item d bob file 100 -  0", "item d bob file 100 - \"x\" ",
		"item d bob File 100 - \"x\" 0", "item d bob letter 100 - \"x\" 0", "item d bob 2 100 - \"x\" 0",
		"item d bob file 0100 - \"x\" 0", "item d bob file -0 - \"x\" 0", "item d bob file +1 - \"x\" 0", "item d bob file x - \"x\" 0",
		"item d bob file 1000000000 - \"x\" 0", "item d bob file 100 - x 0", "item d bob file 100 - \"x 0", "item d bob file 100 - \"x\"y 0",
		"item d bob file 100 - \"x\"\"\" 0", "item d bob file 100 - \"\\x41\" 0", "item d bob file 100 - \"x\ty\" 0",
		"item d bob file 100 - \"x\" 00", "item d bob file 100 - \"x\" -1", "item d bob file 100 - \"x\" -0", "item d bob file 100 - \"x\" 1000000000",
		"item d bob file 100 - \"x\" 0\r",
	} {
		l, n, e := intake.Read("item a bob file 100 - \"x\" 0\n" + line + "\n")
		fails(t, e, api.ErrSyntax, l)
		if n != 1 {
			t.Errorf("%q: line %d", line, n)
		}
	}
}

// P1.8: what has the form is for Check, after all lines were read.
func TestReadChecks(t *testing.T) {
	for _, c := range []struct {
		e    api.Errno
		text string
	}{
		{api.ErrName, "item D bob file 100 - \"x\" 0\n"},
		{api.ErrName, "item - bob file 100 - \"x\" 0\n"},
		{api.ErrName, "item \xff bob file 100 - \"x\" 0\n"},
		{api.ErrName, "item d b?b file 100 - \"x\" 0\n"},
		{api.ErrName, "item d bob file 100 -- \"x\" 0\n"},
		{api.ErrForm, "item d bob file 100 - \"\\x20\" 0\n"},
		{api.ErrLarge, "item d bob file 100 - \"" + strings.Repeat("x", api.MaxTitle+1) + "\" 0\n"},
		{api.ErrArg, "item d bob file -1 - \"x\" 0\n"},
		{api.ErrArg, "item d bob file 999999999 - \"x\" 0\n"},
		{api.ErrArg, "item d bob file -999999999 - \"x\" 0\n"},
		{api.ErrLoop, "item d bob file 100 d \"x\" 0\n"},
		{api.ErrNone, "item d bob file 100 e \"x\" 0\n"},
		{api.ErrForm, "item d bob file 100 - \"x\" 1\n|\t\n"},
		{api.ErrForm, "item d bob file 100 - \"x\" 1\n|\xff\n"},
		{api.ErrLarge, "item d bob file 100 - \"x\" 1\n|" + strings.Repeat("x", api.MaxBody) + "\n"},
		{api.ErrOrder, "item d bob file 100 - \"x\" 0\nitem d bob file 100 - \"x\" 0\n"},
		{api.ErrLarge, strings.Repeat("item d bob file 1 - \"x\" 0\n", api.MaxItems+1)},
		{api.ErrLarge, strings.Repeat("\n", api.MaxText+1)},
	} {
		l, n, e := intake.Read(c.text)
		fails(t, e, c.e, l, n)
	}
	l, n, e := intake.Read("item D bob file 100 - \"x\" 0\nitem\n")
	fails(t, e, api.ErrSyntax, l)
	is(t, n, 1)
	_, n, e = intake.Read("item d bob file 100 - \"x\" 100000\n" + strings.Repeat("|\n", 80_000))
	is(t, []any{n, e}, []any{80_001, api.ErrSyntax})
}

// P1.8, Z10: whatever is read is what Text writes.
func TestReadOfAnything(t *testing.T) {
	r := rand.New(rand.NewPCG(1, 8))
	read := 0
	for range 20_000 {
		s := ""
		for i := range r.IntN(4) {
			body := pick(r, "", "", "|a\n", "|a\n|\n", "||\n", "|a")
			many := pick(r, strconv.Itoa(strings.Count(body, "\n")), "0", "1", "01")
			head := []string{
				pick(r, "item", "item", "item", "items", ""), pick(r, "a", "b", "c", "x"+strconv.Itoa(i)), pick(r, "ann", "bob"),
				pick(r, "mail", "box", "note", "mail "), pick(r, "0", "7", "10", "-0"), pick(r, "-", "-", "a"),
				pick(r, `"x"`, `""`, `"\n"`, `"\x20"`, `"x`), many,
			}
			s += strings.Join(head, " ") + pick(r, "\n", "\n", "\n", "") + body
		}
		l, line, e := intake.Read(s)
		if e == api.OK {
			read++
			back, e := intake.Text(l)
			is(t, []any{back, line, e}, []any{s, 0, api.OK})
		} else if e != api.ErrSyntax {
			fails(t, e, e, l, line)
		}
	}
	if read < 1_000 {
		t.Errorf("only %d strings were read", read)
	}
}
