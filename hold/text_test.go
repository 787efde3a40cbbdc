package hold_test

import (
	"math/rand/v2"
	"strings"
	"testing"

	"paperchase/api"
	"paperchase/hold"
)

func expectText(t *testing.T, l []api.Hold, want string) {
	t.Helper()
	s, e := hold.Text(l)
	gives(t, s, e, want)
	back, line, e := hold.Read(want)
	gives(t, back, e, l)
	is(t, line, 0)
}

// P5.8
func TestText(t *testing.T) {
	expectText(t, holds(), "hold case 50 -1 0 5761440 \"\"\nof ann\nof bob\n"+
		"hold deal 0 900 0 5761440 \"deal*\\x20or\\x20owner:cid\"\nkind mail\nkind note\n"+
		"hold rest 10 -1 100 200 \"\"\n")
	expectText(t, nil, "")
	expectText(t, []api.Hold{kinds(of(released(within(searching(whole("a", 5), "\"X y\"\nor é"), 5, 5), 5), "a b"), 1, 2, 3, 4)},
		`hold a 5 5 5 5 "\"X\x20y\"\nor\x20\xc3\xa9"`+"\nof a\nof b\nkind mail\nkind file\nkind box\nkind note\n")
	expectText(t, []api.Hold{within(whole("a", api.End-1), api.End, api.End), {Key: "b", Released: -1}},
		"hold a 5761439 -1 5761440 5761440 \"\"\nhold b 0 -1 0 0 \"\"\n")
	eachBadHolds(t, func(l []api.Hold) (api.Errno, []any) {
		s, e := hold.Text(l)
		return e, []any{s}
	})
}

// P5.8: what Text writes has at most MaxText bytes, and Read takes all of it.
func TestTextBound(t *testing.T) {
	l := []api.Hold{of(whole("a", 0), "ann"), searching(whole("b", 0), "deal")}
	s, _ := hold.Text(l)
	l[1].Query = strings.Repeat("\n", (api.MaxText-len(s))/2) + "deal"
	s, _ = hold.Text(l)
	l[1].Query += strings.Repeat("s", api.MaxText-len(s))
	s, e := hold.Text(l)
	is(t, []any{len(s), e}, []any{api.MaxText, api.OK})
	back, line, e := hold.Read(s)
	is(t, []any{back, line, e}, []any{l, 0, api.OK})
	l[1].Query += "s"
	s, e = hold.Text(l)
	fails(t, e, api.ErrLarge, s)
	back, line, e = hold.Read(strings.Repeat("\n", api.MaxText+1))
	fails(t, e, api.ErrLarge, back, line)
	full := manyHolds(api.MaxHolds)
	for i := range full {
		full[i].Custodians, full[i].Kinds = names(api.MaxPeople), []int{1, 2, 3, 4}
	}
	s, e = hold.Text(full)
	is(t, []any{len(s), e}, []any{60 * (len("hold h000000 0 -1 0 5761440 \"\"\n") + 200*len("of p000000\n") + len("kind mail\nkind file\nkind box\nkind note\n")), api.OK})
	back, line, e = hold.Read(s)
	is(t, []any{back, line, e}, []any{full, 0, api.OK})
}

// P5.8: the first line that has not its form, or cannot be where it is.
func TestReadSyntax(t *testing.T) {
	good := "hold a 0 -1 0 9 \"\"\n"
	for _, c := range []struct {
		line int
		text string
	}{
		{0, "\n"},
		{0, "of ann\n"},
		{0, "kind mail\n"},
		{0, good[:len(good)-1]},
		{0, "x\n" + good},
		{1, good + "\n"},
		{1, good + "of ann"},
		{1, good + "kind mail"},
		{1, good + "kind letter\n"},
		{1, good + "kind Mail\n"},
		{1, good + "kind 1\n"},
		{1, good + "kind \n"},
		{1, good + "kind\n"},
		{1, good + "kind mail box\n"},
		{1, good + "kind  mail\n"},
		{1, good + "of \n"},
		{1, good + "of\n"},
		{1, good + "of ann bob\n"},
		{1, good + "of ann \n"},
		{1, good + " of ann\n"},
		{1, good + "Of ann\n"},
		{1, good + "for ann\n"},
		{2, good + "kind mail\nof ann\n"},
		{3, good + "of ann\nkind mail\nof bob\n"},
		{3, good + "of ann\n" + good + "\nx"},
		{2, good + "of ann\nhold b"},
	} {
		l, line, e := hold.Read(c.text)
		fails(t, e, api.ErrSyntax, l)
		if line != c.line {
			t.Errorf("%q: line %d, want %d", c.text, line, c.line)
		}
	}
}

// P5.8: the forms of the words of the line of a hold.
func TestReadHead(t *testing.T) {
	for _, line := range []string{
		"hold a 0 -1 0 9", "hold a 0 -1 0 9 \"\" ", "hold a 0 -1 0 9 \"\" \"\"", " hold a 0 -1 0 9 \"\"", "hold  a 0 -1 0 9 \"\"", "hold a 0 -1 0 9  \"\"",
		"hold  0 -1 0 9 \"\"", "hold a  -1 0 9 \"\"", "hold a 0 -1 0 9 ", "Hold a 0 -1 0 9 \"\"", "holds a 0 -1 0 9 \"\"", "hold", "hold a",
		"hold a 00 -1 0 9 \"\"", "hold a 0 -01 0 9 \"\"", "hold a 0 -1 +0 9 \"\"", "hold a 0 -1 0 9x \"\"", "hold a -0 -1 0 9 \"\"", "hold a 0 - 0 9 \"\"",
		"hold a 1000000000 -1 0 9 \"\"", "hold a 0 -1000000000 0 9 \"\"", "hold a 0 -1 1000000000 9 \"\"", "hold a 0 -1 0 1000000000 \"\"",
		"hold a 0 -1 0 9 \"", "hold a 0 -1 0 9 a", "hold a 0 -1 0 9 \"a", "hold a 0 -1 0 9 \"a\"b", "hold a 0 -1 0 9 \"\"\"\"", "hold a 0 -1 0 9 \"\\x61\"", "hold a 0 -1 0 9 \"\t\"",
	} {
		l, at, e := hold.Read("hold a 0 -1 0 9 \"\"\n" + line + "\n")
		fails(t, e, api.ErrSyntax, l)
		if at != 1 {
			t.Errorf("%q: line %d", line, at)
		}
	}
}

// P5.8: what has the form is for Check, after all lines were read, without a line.
func TestReadChecks(t *testing.T) {
	good := "hold a 7 -1 0 9 \"\"\n"
	for _, c := range []struct {
		e    api.Errno
		text string
	}{
		{api.ErrLarge, strings.Repeat(good, api.MaxHolds+1)},
		{api.ErrName, "hold A 7 -1 0 9 \"\"\n"},
		{api.ErrName, "hold \xff 7 -1 0 9 \"\"\n"},
		{api.ErrOrder, good + good},
		{api.ErrArg, "hold a -7 -1 0 9 \"\"\n"},
		{api.ErrArg, "hold a 999999999 -1 0 9 \"\"\n"},
		{api.ErrArg, "hold a 7 6 0 9 \"\"\n"},
		{api.ErrArg, "hold a 7 -999999999 0 9 \"\"\n"},
		{api.ErrLarge, good + strings.Repeat("of ann\n", api.MaxPeople+1)},
		{api.ErrName, good + "of Ann\n"},
		{api.ErrOrder, good + "of ann\nof ann\n"},
		{api.ErrOrder, good + "kind note\nkind mail\n"},
		{api.ErrArg, "hold a 7 -1 10 9 \"\"\n"},
		{api.ErrArg, "hold a 7 -1 0 5761441 \"\"\n"},
		{api.ErrSyntax, good + "hold b 7 -1 0 9 \"and\"\n"},
		{api.ErrSyntax, good + "hold b 7 -1 0 9 \"from:5000\"\nof ann\n"},
	} {
		l, line, e := hold.Read(c.text)
		fails(t, e, c.e, l, line)
	}
	l, line, e := hold.Read("hold A 7 -1 0 9 \"and\"\nhold\n")
	fails(t, e, api.ErrSyntax, l)
	is(t, line, 1)
}

// P5.8: what Text writes Read reads.
func TestTextRandom(t *testing.T) {
	r := rand.New(rand.NewPCG(5, 9))
	for range 2_000 {
		l := randomHolds(r, 4)
		s, e := hold.Text(l)
		is(t, e, api.OK)
		back, line, e := hold.Read(s)
		gives(t, back, e, l)
		is(t, line, 0)
	}
}

// P5.8, Z10: whatever is read is what Text writes.
func TestReadOfAnything(t *testing.T) {
	r := rand.New(rand.NewPCG(5, 10))
	read := 0
	for range 20_000 {
		// Most words are right, some are not.
		word := func(wrong string, right ...string) string {
			if r.IntN(30) == 0 {
				return wrong
			}
			return pick(r, right...)
		}
		s := ""
		for i := range 1 + r.IntN(5) {
			switch what := r.IntN(4); {
			case what == 0 && i > 0:
				s += word("of", "of") + word("  ", " ") + word("a b", "ann", "bob")
			case what == 1 && i > 0:
				s += word("Kind", "kind") + " " + word("", "mail", "box")
			default:
				s += strings.Join([]string{
					word("of", "hold"), name("h", i), word("07", "0", "7"), word("-0", "-1", "8"),
					word("", "0", "5"), word("9 ", "5", "9"), word(`"\x61"`, `""`, `"a"`, `"a\x20b"`, `"(a)"`),
				}, " ")
			}
			s += word("", "\n")
		}
		l, line, e := hold.Read(s)
		if e == api.OK {
			read++
			back, e := hold.Text(l)
			is(t, []any{back, line, e}, []any{s, 0, api.OK})
		} else if e != api.ErrSyntax {
			fails(t, e, e, l, line)
		}
	}
	if read < 2_000 {
		t.Errorf("only %d strings were read", read)
	}
}

// Z2
func TestTextKeeps(t *testing.T) {
	keepsHolds(t, func(l []api.Hold) {
		hold.Text(l)
		hold.Check(l)
	})
}
