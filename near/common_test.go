package near_test

import (
	"math"
	"math/rand/v2"
	"slices"
	"strings"
	"testing"

	"paperchase/api"
	"paperchase/near"
)

// P3.7
func TestCommon(t *testing.T) {
	for _, c := range []struct {
		l     []api.Body
		least int
		want  []string
	}{
		{nil, 2, nil},
		{bodies("x", "y"), 2, nil},
		{bodies("Keep it secret.\n\nHi\n", "hello\n\nKEEP it\nsecret\n"), 2, []string{"keep it secret"}},
		// each at least once: twice in one document is one document
		{bodies("x\n\nx", "y"), 2, nil},
		{bodies("x\n\nz\n\nx", "y"), 2, nil},
		{bodies("x\n\nx", "x"), 2, []string{"x"}},
		{bodies("x", "x"), 3, nil},
		{bodies("x", "x", "x"), 3, []string{"x"}},
		{bodies("x", "x", "x"), 2, []string{"x"}},
		{bodies("c\n\na\n\nb", "b\n\nc\n\na"), 2, []string{"a", "b", "c"}},
		// paragraphs without words have no form
		{bodies("--\n\nx", "--\n\ny"), 2, nil},
		{bodies("", ""), 2, nil},
		// lines of blanks alone end a paragraph, other signs do not
		{bodies("a\n  \nb", "a", "b"), 2, []string{"a", "b"}},
		{bodies("a\n\t\nb", "a", "b"), 2, nil},
		{bodies("a\n--\nb", "a b"), 2, []string{"a b"}},
		{bodies("  a\r\nb  ", "\n\n a\nb"), 2, []string{"a b"}},
		{bodies("a\nb", "ab"), 2, nil},
		{bodies("\xff\n", " \xff"), 2, []string{"\xff"}},
	} {
		l, e := near.Common(c.l, c.least)
		is(t, e, api.OK)
		is(t, l, c.want)
	}
	l, e := near.Common(alike(api.MaxBodies, "x"), api.MaxBodies)
	is(t, []any{l, e}, []any{words("x"), api.OK})
	l, e = near.Common(alike(api.MaxBodies-1, "x"), api.MaxBodies)
	is(t, e, api.OK)
	is(t, l, []string{})
}

// P3.7
func TestCommonErrors(t *testing.T) {
	for _, least := range []int{1, 0, -1, api.MaxBodies + 1, math.MinInt, math.MaxInt} {
		l, e := near.Common(bodies("x", "x"), least)
		fails(t, e, api.ErrArg, l)
	}
	eachBadList(t, func(l []api.Body) (any, api.Errno) { return near.Common(l, 0) })
	eachBadList(t, func(l []api.Body) (any, api.Errno) { return near.Common(l, 2) })
	keepsBodies(t, func(l []api.Body) { near.Common(l, 2) })
}

// P3.7
func TestStrip(t *testing.T) {
	for _, c := range []struct {
		text   string
		common []string
		want   string
	}{
		{"", nil, ""},
		{" \n\n  ", nil, ""},
		{"a", nil, "a\n"},
		{"a\n", nil, "a\n"},
		{"\n\n a  b \nc\n \n\n\td\n", nil, " a  b \nc\n\n\td\n"},
		{"one\n\nKeep it secret\n\ntwo\nthree", []string{"keep it secret"}, "one\n\ntwo\nthree\n"},
		{"Keep it\n-- secret!\n\ntwo", []string{"keep it secret"}, "two\n"},
		{"one\n\nKeep it\n", []string{"keep it", "keep it secret"}, "one\n"},
		{"x", []string{"x"}, ""},
		{"X!\n\n?\n\nx\n\n  x  \n", []string{"x"}, "?\n"},
		// the whole form, not a part
		{"a b\n\nb", []string{"a"}, "a b\n\nb\n"},
		{"a\nb\n\nb", []string{"a", "b"}, "a\nb\n"},
		{"a\n\nb\n\nc\n\nd", []string{"b", "d"}, "a\n\nc\n"},
		{"\xff\n\nA", []string{"a", "\xff"}, ""},
		{xs(api.MaxBody), nil, xs(api.MaxBody) + "\n"},
	} {
		before := slices.Clone(c.common)
		s, e := near.Strip(c.text, c.common)
		is(t, []any{s, e}, []any{c.want, api.OK})
		is(t, c.common, before)
	}
}

// P3.7
func TestStripErrors(t *testing.T) {
	var many []string
	for i := range api.MaxCommon + 1 {
		many = append(many, name("f", i))
	}
	s, e := near.Strip("f000000\n\nx\n\nf000999", many[:api.MaxCommon])
	is(t, []any{s, e}, []any{"x\n", api.OK})
	for _, c := range []struct {
		e      api.Errno
		text   string
		common []string
	}{
		{api.ErrLarge, xs(api.MaxBody + 1), []string{""}},
		{api.ErrLarge, "", many},
		{api.ErrLarge, "", append([]string{""}, many...)},
		{api.ErrForm, "x", []string{""}},
		{api.ErrForm, "x", []string{"A"}},
		{api.ErrForm, "x", []string{"a", "a  b"}},
		{api.ErrForm, "x", []string{" a"}},
		{api.ErrForm, "x", []string{"a "}},
		{api.ErrForm, "x", []string{"a\nb"}},
		{api.ErrForm, "x", []string{"a-b"}},
		{api.ErrForm, "x", []string{"b", "a."}},
		{api.ErrForm, "x", []string{"?"}},
		{api.ErrOrder, "x", []string{"a", "a"}},
		{api.ErrOrder, "x", []string{"b", "a"}},
		{api.ErrOrder, "x", []string{"a b", "a", "?"}},
	} {
		s, e := near.Strip(c.text, c.common)
		fails(t, e, c.e, s)
	}
}

// P3.7: Strip takes what Common makes, and then no form is common any more.
func TestStripOfCommon(t *testing.T) {
	r := rand.New(rand.NewPCG(3, 7))
	for range 1_000 {
		var l []api.Body
		for i := range r.IntN(5) {
			var paragraphs []string
			for range r.IntN(5) {
				paragraphs = append(paragraphs, randomText(r, 2))
			}
			l = append(l, api.Body{Id: name("d", i), Text: strings.Join(paragraphs, pick(r, "\n\n", "\n  \n"))})
		}
		common, e := near.Common(l, 2)
		is(t, e, api.OK)
		is(t, slices.IsSorted(common), true)
		for i := range l {
			stripped, e := near.Strip(l[i].Text, common)
			is(t, e, api.OK)
			again, _ := near.Strip(stripped, common)
			is(t, again, stripped)
			l[i].Text = stripped
		}
		common, e = near.Common(l, 2)
		is(t, e, api.OK)
		is(t, common, []string{})
	}
}
