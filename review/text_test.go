package review_test

import (
	"math/rand/v2"
	"strings"
	"testing"

	"paperchase/api"
	"paperchase/review"
)

func expectLayout(t *testing.T, l api.Layout, want string) {
	t.Helper()
	s, e := review.TextLayout(l)
	gives(t, s, e, want)
	back, line, e := review.ReadLayout(want)
	gives(t, back, e, l)
	is(t, line, 0)
}

// P6.7
func TestTextLayout(t *testing.T) {
	expectLayout(t, example(), "ask resp one none yes no\nask why many none deal hr\nrule needs resp yes why\n")
	l := free()
	l.Rules = []api.Rule{needs("resp", "yes", "iss", "a"), bars("iss", "m", "hot", ""), bars("hot", "hot", "iss", "z")}
	expectLayout(t, l, "ask resp one same yes no\nask iss many family z a m\nask hot one none hot cold\nrule needs resp yes iss a\nrule bars iss m hot\nrule bars hot hot iss z\n")
	expectLayout(t, api.Layout{Asks: []api.Ask{ask("ask", "rule")}}, "ask ask one none rule\n")
	eachBadLayout(t, func(l api.Layout) (api.Errno, []any) {
		s, e := review.TextLayout(l)
		return e, []any{s}
	})
	long, e := review.TextLayout(wide())
	back, line, e2 := review.ReadLayout(long)
	is(t, []any{e, back, line, e2}, []any{api.OK, wide(), 0, api.OK})
}

// P6.7: the first line that has not its form, or cannot be where it is.
func TestReadLayoutSyntax(t *testing.T) {
	good := "ask resp one same yes no\nask why many none deal\n"
	for _, c := range []struct {
		line int
		text string
	}{
		{0, "\n"},
		{0, "x\n" + good},
		{0, good[:len("ask resp one same yes no")]},
		{2, good + "\n"},
		{2, good + "ask x one none y"},
		{2, good + "rule bars resp yes why"},
		{3, good + "rule bars resp yes why\nask x one none y\n"},
		{5, good + strings.Repeat("rule bars resp yes why\n", 3) + "\n"},
	} {
		l, line, e := review.ReadLayout(c.text)
		fails(t, e, api.ErrSyntax, l)
		if line != c.line {
			t.Errorf("%q: line %d, want %d", c.text, line, c.line)
		}
	}
	for _, line := range []string{
		"ask", "ask x", "ask x one", "ask x none y", "ask one none y", "ask x one none ", "ask x  one none y", " ask x one none y", "ask x one none y  z", "ask x one none y ", "ask  one none y",
		"Ask x one none y", "ask x two none y", "ask x One none y", "ask x one all y", "ask x one 0 y", "ask x one Same y", "ask x none one y", "asks x one none y",
		"rule", "rule needs", "rule needs resp", "rule needs resp yes", "rule needs resp yes ", "rule needs resp yes why ", "rule needs resp yes why deal ", "rule needs resp yes why deal hr",
		"rule need resp yes why", "rule Bars resp yes why", "rule 1 resp yes why", "rule needs  yes why", "rule needs resp  why", "Rule needs resp yes why", "decision 1 5 a b first resp=yes",
	} {
		l, at, e := review.ReadLayout(good + line + "\nx\n")
		fails(t, e, api.ErrSyntax, l)
		if at != 2 {
			t.Errorf("%q: line %d", line, at)
		}
	}
}

// P6.7: what has the form is for CheckLayout, after all lines were read.
func TestReadLayoutChecks(t *testing.T) {
	good := "ask resp one same yes no\nask why many none deal\n"
	for text, want := range map[string]api.Errno{
		"":                         api.ErrForm,
		"rule bars resp yes why\n": api.ErrForm, // no ask comes after it
		good + "ask x one none\n":  api.ErrForm,
		good + "ask x many family\nrule bars a b c\n":                  api.ErrForm,
		good + "ask X one none y\n":                                    api.ErrName,
		good + "ask x one none y \xff\t\n":                             api.ErrName,
		good + "ask why one none y\n":                                  api.ErrTwice,
		good + "rule needs resp deal why\n":                            api.ErrNone,
		good + "rule bars resp yes resp no\n":                          api.ErrLoop,
		strings.Repeat("rule bars a b c\n", 61):                        api.ErrForm,
		good + strings.Repeat("rule bars resp yes why\n", 61):          api.ErrLarge,
		strings.Repeat("\n", api.MaxText+1):                            api.ErrLarge,
		"ask x one none " + strings.Repeat("y", api.MaxText-16) + "\n": api.ErrName,
	} {
		l, line, e := review.ReadLayout(text)
		fails(t, e, want, l, line)
	}
	l, line, e := review.ReadLayout("ask X one none\nask\n")
	fails(t, e, api.ErrSyntax, l)
	is(t, line, 1)
}

func expectText(t *testing.T, l api.Layout, d []api.Decision, want string) {
	t.Helper()
	s, e := review.Text(l, d)
	gives(t, s, e, want)
	back, line, e := review.Read(l, want)
	gives(t, back, e, d)
	is(t, line, 0)
}

// P6.7
func TestText(t *testing.T) {
	expectText(t, example(), nil, "")
	expectText(t, example(), numbered(first(5, "ann", "a", "resp=yes why=deal,hr"), second(api.End-1, "first", "b-1", "why=hr"), first(0, "ann", "a", "resp=no")),
		"decision 1 5 ann a first resp=yes why=deal,hr\ndecision 2 5761439 first b-1 second why=hr\ndecision 3 0 ann a first resp=no\n")
	eachBadDecisions(t, func(l api.Layout, d []api.Decision) (api.Errno, []any) {
		s, e := review.Text(l, d)
		return e, []any{s}
	})
}

// P6.7: what Text writes has at most MaxText bytes, and Read takes all of it.
func TestTextBound(t *testing.T) {
	size := func(d []api.Decision) int {
		s, e := review.Text(free(), d)
		is(t, e, api.OK)
		return len(s)
	}
	one := first(0, "ann", strings.Repeat("i", api.MaxName), "resp=no")
	var d []api.Decision
	for range api.MaxText/size(numbered(one)) - 10_000/size(numbered(one)) {
		d = append(d, one)
	}
	for i := range d {
		room := api.MaxText - size(numbered(d...))
		if room == 0 {
			break
		}
		d[i].Reviewer += strings.Repeat("n", min(room, api.MaxName-len(one.Reviewer)))
	}
	s, e := review.Text(free(), d)
	is(t, []any{len(s), e}, []any{api.MaxText, api.OK})
	back, at, e := review.Read(free(), s)
	is(t, []any{back, at, e}, []any{d, 0, api.OK})
	d[len(d)-1].Reviewer += "n"
	s, e = review.Text(free(), d)
	fails(t, e, api.ErrLarge, s)
	back, at, e = review.Read(free(), strings.Repeat("\n", api.MaxText+1))
	fails(t, e, api.ErrLarge, back, at)
	full := make([]api.Decision, api.MaxDecisions)
	for i := range full {
		full[i] = api.Decision{Reviewer: "ann", Item: "a", Values: everything(wide())}
	}
	s, e = review.Text(wide(), numbered(full...))
	fails(t, e, api.ErrLarge, s)
}

// P6.7: the forms of lines of decisions.
func TestReadSyntax(t *testing.T) {
	good := "decision 1 5 ann a first resp=no\n"
	for _, line := range []string{
		"", "x", "decision", "decision 2 5 ann a", "decision 2 5 ann first resp=no", "decision 2 5 ann a resp=no", "decision 2 ann a first resp=no",
		"decision 2 5 ann a third resp=no", "decision 2 5 ann a First resp=no", "decision 2 5 ann a  resp=no", "Decision 2 5 ann a first resp=no", "decisions 2 5 ann a first resp=no",
		" decision 2 5 ann a first resp=no", "decision  2 5 ann a first resp=no", "decision 2 5  a first resp=no", "decision 2 5 ann  first resp=no",
		"decision 2 5 ann a first resp=no ", "decision 2 5 ann a first  resp=no", "decision 2 5 ann a first ",
		"decision 02 5 ann a first resp=no", "decision +2 5 ann a first resp=no", "decision two 5 ann a first resp=no", "decision 1000000000 5 ann a first resp=no", "decision -0 5 ann a first resp=no",
		"decision 2 05 ann a first resp=no", "decision 2 -0 ann a first resp=no", "decision 2 x ann a first resp=no", "decision 2 1000000000 ann a first resp=no",
		"decision 2 5 ann a first resp", "decision 2 5 ann a first resp=", "decision 2 5 ann a first =no", "decision 2 5 ann a first =", "decision 2 5 ann a first ,",
		"decision 2 5 ann a first resp=,", "decision 2 5 ann a first resp=no,", "decision 2 5 ann a first resp=,no", "decision 2 5 ann a first resp=yes,,no", "decision 2 5 ann a first resp=no why",
		"decision 2 5 ann a first resp=no why=hr =", "ask resp one none yes no", "rule bars resp yes why",
	} {
		d, at, e := review.Read(example(), good+line+"\nx\n")
		fails(t, e, api.ErrSyntax, d)
		if at != 1 {
			t.Errorf("%q: line %d", line, at)
		}
	}
	for text, want := range map[string]int{"\n": 0, "x": 0, good[:len(good)-1]: 0, good + good + "x": 2, good + good + good[:9]: 2, good + good + good + "\n": 3, good + good[:len(good)-1]: 1} {
		d, at, e := review.Read(example(), text)
		fails(t, e, api.ErrSyntax, d)
		if at != want {
			t.Errorf("%q: line %d, want %d", text, at, want)
		}
	}
}

// P6.7: what has the form is for Check, after all lines were read.
func TestReadChecks(t *testing.T) {
	good := "decision 1 5 ann a first resp=no\n"
	for text, want := range map[string]api.Errno{
		good + good:                                          api.ErrArg,
		"decision -1 5 ann a first resp=no\n":                api.ErrArg,
		"decision 1 -1 ann a first resp=no\n":                api.ErrArg,
		"decision 1 999999999 ann a first resp=no\n":         api.ErrArg,
		"decision 1 5 Ann a first resp=no\n":                 api.ErrName,
		"decision 1 5 ann a\xff first resp=no\n":             api.ErrName,
		"decision 1 5 ann a second\n":                        api.ErrForm,
		"decision 1 5 ann a second resp=maybe\n":             api.ErrNone,
		"decision 1 5 ann a second resp=yes=no\n":            api.ErrNone,
		"decision 1 5 ann a second re,sp=yes\n":              api.ErrNone,
		"decision 1 5 ann a second why=hr,deal\n":            api.ErrOrder,
		"decision 1 5 ann a second why=hr resp=no\n":         api.ErrOrder,
		"decision 1 5 ann a second resp=yes,no\n":            api.ErrRule,
		"decision 1 5 ann a second resp=yes\n":               api.ErrRule,
		strings.Repeat("decision 1 1 a a first r=n\n", 5001): api.ErrLarge,
	} {
		d, line, e := review.Read(example(), text)
		fails(t, e, want, d, line)
	}
	d, line, e := review.Read(example(), "decision 2 5 ann a first\ndecision\n")
	fails(t, e, api.ErrSyntax, d)
	is(t, line, 1)
	// The layout comes first.
	eachBadLayout(t, func(l api.Layout) (api.Errno, []any) {
		d, line, e := review.Read(l, good+"\n")
		return e, []any{d, line}
	})
	eachBadLayout(t, func(l api.Layout) (api.Errno, []any) {
		d, line, e := review.Read(l, strings.Repeat("x", api.MaxText+1))
		return e, []any{d, line}
	})
}

// P6.7: what is written is read.
func TestTextRandom(t *testing.T) {
	r := rand.New(rand.NewPCG(6, 7))
	for range 2_000 {
		l := randomLayout(r)
		s, e := review.TextLayout(l)
		is(t, e, api.OK)
		expectLayout(t, l, s)
		d := randomDecisions(r, l, 5)
		s, e = review.Text(l, d)
		is(t, e, api.OK)
		expectText(t, l, d, s)
	}
}

// P6.7, Z10: whatever is read is what is written.
func TestReadOfAnything(t *testing.T) {
	r := rand.New(rand.NewPCG(6, 8))
	read := 0
	// Most words are right, some are not.
	word := func(wrong string, right ...string) string {
		if r.IntN(40) == 0 {
			return wrong
		}
		return pick(r, right...)
	}
	for range 20_000 {
		s := ""
		for range 1 + r.IntN(3) {
			s += strings.Join([]string{word("Ask", "ask"), pick(r, words("a b c d e f")...), word("", "one", "many"), word("a", "none", "same", "family"), word(" ", "x", "x y", "y x")}, " ") + word("", "\n")
		}
		for range r.IntN(3) {
			s += strings.Join([]string{word("ask", "rule"), word("x", "needs", "bars"), pick(r, "a", "b"), "x", word("a", "c d", "c", "d x", "e")}, word("  ", " ")) + word("\n\n", "\n")
		}
		l, line, e := review.ReadLayout(s)
		if e == api.OK {
			read++
			back, e := review.TextLayout(l)
			is(t, []any{back, line, e}, []any{s, 0, api.OK})
		} else if e != api.ErrSyntax {
			fails(t, e, e, l, line)
		}
		s = ""
		for i := range r.IntN(3) {
			s += strings.Join([]string{"decision", word("01", words("1 2")[i]), word("-0", "5", "0"), word("", "ann"), word("a b", "a"), word("no", "first", "second"), word("resp=", "resp=no", "why=deal,hr", "resp=yes why=hr", "why=hr,deal")}, " ") + word("", "\n")
		}
		d, line, e := review.Read(example(), s)
		if e == api.OK {
			back, e := review.Text(example(), d)
			is(t, []any{back, line, e}, []any{s, 0, api.OK})
		} else if e != api.ErrSyntax {
			fails(t, e, e, d, line)
		}
	}
	if read < 2_000 {
		t.Errorf("only %d layouts were read", read)
	}
}

// Z2
func TestTextKeeps(t *testing.T) {
	keepsDecisions(t, func(l api.Layout, d []api.Decision) {
		_, e := review.Text(l, d)
		is(t, e, api.OK)
		_, e = review.TextLayout(l)
		is(t, e, api.OK)
		_, _, e = review.Read(l, "decision 1 5 ann a first resp=no\n")
		is(t, e, api.OK)
	})
	l, _, _ := review.ReadLayout("ask a many none x y\nask b one none x\n")
	l.Asks[0].Choices = append(l.Asks[0].Choices, "?")
	is(t, l.Asks[1].Choices, words("x"))
}
