package thread_test

import (
	"math/rand/v2"
	"slices"
	"strings"
	"testing"

	"paperchase/api"
	"paperchase/thread"
)

// P2.10
func TestCovers(t *testing.T) {
	for _, c := range []struct {
		a, b string
		want bool
	}{
		{"", "", true},
		{"x\n", "", true},
		{"", "x\n", false},
		{"", "\n  \n", true},
		{"", "Bo wrote:\n>\n", true},
		{"two\n> one\n", "one\n", true},
		{"two\n> one\n", "ONE\n\n  two \n", true},
		{"one\n", "two\n> one\n", false},
		{"one two\n", "one\n", false},
		{"one\ntwo\n", "one two\n", true},
		{"a\n\nc\n\ne\n", "e\n\na\n", true},
		{"a\n\nc\n\ne\n", "e\n\nb\n", false},
		{"a\n\nc\n\ne\n", "f\n", false},
		{"b\n", "a\n", false},
	} {
		a, b := full(), mail("other", 1, "", "")
		a.Body, b.Body = c.a, c.b
		covers, e := thread.Covers(a, b)
		if covers != c.want || e != api.OK {
			t.Errorf("%q, %q: %v, %d", c.a, c.b, covers, e)
		}
	}
	for want, m := range badLetters() {
		covers, e := thread.Covers(m, api.Mail{Id: "a", At: -1})
		fails(t, e, want, covers)
		covers, e = thread.Covers(full(), m)
		fails(t, e, want, covers)
	}
	covers, e := thread.Covers(full(), full())
	is(t, []any{covers, e}, []any{true, api.OK})
}

// P2.10
func TestInclusive(t *testing.T) {
	for _, c := range []struct {
		letters []api.Mail
		want    string
	}{
		{nil, ""},
		{[]api.Mail{mailOf("x", 1, "one\n"), mailOf("y", 2, "two\n> one\n")}, "y"},
		{[]api.Mail{mailOf("y", 2, "one\n"), mailOf("x", 1, "two\n> one\n")}, "x"},
		{[]api.Mail{mailOf("z", 2, "a\n"), mailOf("y", 1, "b\n"), mailOf("x", 3, "c\n")}, "x y z"},
		// of several that cover each other the first one
		{[]api.Mail{mailOf("a", 2, "x\n"), mailOf("b", 1, "X\n"), mailOf("c", 1, "> x\n")}, "b"},
		{[]api.Mail{mailOf("a", 2, "x\n\ny\n"), mailOf("b", 2, "y\n\nx\n"), mailOf("c", 3, "y\n"), mailOf("d", 1, "z\n")}, "a d"},
		{[]api.Mail{mailOf("a", 1, "x\n"), mailOf("b", 1, "x\n"), mailOf("c", 1, "y\n\nx\n")}, "c"},
		// without paragraphs
		{[]api.Mail{mailOf("a", 1, ""), mailOf("b", 2, "\n")}, "a"},
		{[]api.Mail{mailOf("a", 1, ""), mailOf("b", 2, "x\n")}, "b"},
		// in another thread
		{[]api.Mail{mailOf("a", 1, "x\n"), mailOf("b", 100, "x\n\ny\n"), mailOf("c", 100, "x\n")}, "a b"},
	} {
		ids, e := thread.Inclusive(c.letters, 10)
		is(t, e, api.OK)
		is(t, ids, words(c.want))
	}
	eachBadList(t, func(l []api.Mail) (any, api.Errno) { return thread.Inclusive(l, -1) })
	keepsArguments(t, func(l []api.Mail) { thread.Inclusive(l, 5) })
}

// needless says whether a letter is covered by another one of its thread that is needed rather than it.
func needless(t *testing.T, l []api.Mail, m api.Mail) bool {
	t.Helper()
	before := true
	for _, other := range l {
		if other.Id == m.Id {
			before = false
			continue
		}
		covers, e := thread.Covers(other, m)
		is(t, e, api.OK)
		covered, e := thread.Covers(m, other)
		is(t, e, api.OK)
		if covers && (!covered || before) {
			return true
		}
	}
	return false
}

// P2.10: against Covers of all pairs; each letter is covered by an inclusive one of its thread.
func TestInclusiveOfAnything(t *testing.T) {
	r := rand.New(rand.NewPCG(2, 10))
	for range 2_000 {
		l := randomLetters(r)
		byId := map[string]api.Mail{}
		for _, m := range l {
			byId[m.Id] = m
		}
		got, e := thread.Inclusive(l, 20)
		is(t, e, api.OK)
		var want []string
		for _, x := range mustThreads(t, l, 20) {
			var letters []api.Mail
			for _, id := range x.Ids {
				letters = append(letters, byId[id])
			}
			for _, m := range letters {
				if !needless(t, letters, m) {
					want = append(want, m.Id)
				}
				is(t, slices.ContainsFunc(letters, func(other api.Mail) bool {
					covers, _ := thread.Covers(other, m)
					return covers && slices.Contains(got, other.Id)
				}), true)
			}
		}
		slices.Sort(want)
		is(t, got, want)
		again, _ := thread.Inclusive(shuffled(r, l), 20)
		is(t, again, got)
	}
}

// P2.10, Z1: the largest thread, in which no letter covers another one, though they share nearly all.
func TestInclusiveLargest(t *testing.T) {
	shared := ""
	for c := 'a'; c <= 'z'; c++ {
		shared += string(c) + "\n> " + string(c) + string(c) + "\n"
	}
	shared += strings.Repeat(">\n", 20)
	l := letters(api.MaxItems)
	for i := range l {
		l[i].Subject = "Re: S"
		l[i].Body = shared + name("", i) + "\n"
	}
	ids, e := thread.Inclusive(l, 1)
	is(t, []any{len(ids), e}, []any{api.MaxItems, api.OK})
}
