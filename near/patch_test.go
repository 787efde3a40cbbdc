package near_test

import (
	"math"
	"slices"
	"strings"
	"testing"

	"paperchase/api"
	"paperchase/near"
)

// P3.6
func TestPatch(t *testing.T) {
	for _, c := range []struct {
		text string
		l    []api.WordChange
		want string
		back []api.WordChange
	}{
		{"", nil, "", nil},
		{" a  b\n c ", nil, "a b\nc", nil},
		{"a  b c", []api.WordChange{change(1, "b", "d")}, "a d c", []api.WordChange{change(1, "d", "b")}},
		{"", []api.WordChange{change(0, "", "a")}, "a", []api.WordChange{change(0, "a", "")}},
		{"a", []api.WordChange{change(1, "", "b c")}, "a b c", []api.WordChange{change(1, "b c", "")}},
		{"a", []api.WordChange{change(0, "a", "")}, "", []api.WordChange{change(0, "", "a")}},
		{"a b c", []api.WordChange{change(0, "a", "x y z"), change(2, "", "v"), change(3, "", "w")}, "x y z b v c w", []api.WordChange{change(0, "x y z", "a"), change(4, "v", ""), change(6, "w", "")}},
		{"a b c d", []api.WordChange{change(0, "", "x"), change(1, "b", ""), change(3, "d", "y z")}, "x a c y z", []api.WordChange{change(0, "x", ""), change(2, "", "b"), change(3, "y z", "d")}},
		{"a\nb", []api.WordChange{change(1, "\n", "")}, "a b", []api.WordChange{change(1, "", "\n")}},
		{"a b", []api.WordChange{change(1, "", "\n\n")}, "a\n\nb", []api.WordChange{change(1, "\n\n", "")}},
		// what is left out can come again
		{"a b", []api.WordChange{change(0, "a", "a")}, "a b", []api.WordChange{change(0, "a", "a")}},
	} {
		s, e := near.Patch(c.text, c.l)
		is(t, []any{s, e}, []any{c.want, api.OK})
		back, e := near.Turn(c.text, c.l)
		is(t, e, api.OK)
		isChanges(t, back, c.back)
		s, e = near.Patch(c.want, back)
		is(t, []any{s, e}, []any{near.Join(near.Tokens(c.text)), api.OK})
	}
}

func raw(at int, drop, add []string) api.WordChange {
	return api.WordChange{At: at, Drop: drop, Add: add}
}

// P3.6
func TestPatchErrors(t *testing.T) {
	many := strings.Repeat("a ", api.MaxTokens)
	for _, c := range []struct {
		e    api.Errno
		text string
		l    []api.WordChange
	}{
		{api.ErrLarge, xs(api.MaxBody + 1), nil},
		{api.ErrLarge, many + "a", []api.WordChange{change(-1, "", "")}},
		{api.ErrArg, "a b", []api.WordChange{change(-1, "", "")}},
		{api.ErrArg, "a b", []api.WordChange{change(3, "", "x")}},
		{api.ErrArg, "a b", []api.WordChange{change(math.MinInt, "", "x")}},
		{api.ErrArg, "a b", []api.WordChange{change(math.MaxInt, "a", "x")}},
		{api.ErrArg, "a b", []api.WordChange{change(2, "", "x"), change(-1, "", "")}},
		{api.ErrOrder, "a b c", []api.WordChange{change(0, "a", ""), change(1, "b", "x")}},
		{api.ErrOrder, "a b c", []api.WordChange{change(1, "", "x"), change(1, "b", "")}},
		{api.ErrOrder, "a b c", []api.WordChange{change(1, "b", ""), change(0, "", "")}},
		{api.ErrOrder, "a b c", []api.WordChange{change(0, "a b c", ""), change(3, "", "x")}},
		{api.ErrForm, "a b", []api.WordChange{change(0, "", "")}},
		{api.ErrForm, "a b", []api.WordChange{change(0, "a", "y"), change(2, "", "")}},
		{api.ErrForm, "a b", []api.WordChange{raw(0, nil, []string{""})}},
		{api.ErrForm, "a b", []api.WordChange{raw(0, []string{""}, nil)}},
		{api.ErrForm, "a b", []api.WordChange{raw(0, []string{"a b"}, nil)}},
		{api.ErrForm, "a b", []api.WordChange{raw(0, []string{"a", "b "}, []string{"x"})}},
		{api.ErrForm, "a b", []api.WordChange{raw(0, []string{"x"}, []string{" "})}},
		{api.ErrForm, "a b", []api.WordChange{raw(0, nil, []string{"x", "\n", "x\n"})}},
		{api.ErrForm, "a b", []api.WordChange{raw(0, nil, []string{"\n\n"})}},
		{api.ErrConflict, "a x c", []api.WordChange{change(1, "b", "d")}},
		{api.ErrConflict, "a b", []api.WordChange{change(0, "A", "")}},
		{api.ErrConflict, "a b", []api.WordChange{change(1, "b c", "")}},
		{api.ErrConflict, "a b", []api.WordChange{change(2, "c", "")}},
		{api.ErrConflict, "a b", []api.WordChange{change(0, "b", ""), change(-1, "", "")}},
		{api.ErrConflict, "", []api.WordChange{change(0, "a", "b")}},
		{api.ErrLarge, "a", []api.WordChange{change(1, "", xs(api.MaxBody-1))}},
		{api.ErrLarge, "", []api.WordChange{raw(0, nil, slices.Repeat([]string{"x"}, 100_000))}},
		{api.ErrConflict, "a", []api.WordChange{change(0, "", xs(api.MaxBody)), change(1, "b", "")}},
	} {
		s, e := near.Patch(c.text, c.l)
		fails(t, e, c.e, s)
		l, e := near.Turn(c.text, c.l)
		fails(t, e, c.e, l)
	}
}

// P3.6: at the bounds.
func TestPatchLargest(t *testing.T) {
	s, e := near.Patch("a", []api.WordChange{change(1, "", xs(api.MaxBody-2))})
	is(t, []any{s, e}, []any{"a " + xs(api.MaxBody-2), api.OK})
	many := strings.Repeat("a ", api.MaxTokens)
	l := []api.WordChange{change(api.MaxTokens, "", many)} // the result can have more tokens
	s, e = near.Patch(many, l)
	is(t, []any{s, e}, []any{strings.TrimSpace(many + many), api.OK})
	back, e := near.Turn(many, l)
	is(t, e, api.OK)
	isChanges(t, back, []api.WordChange{change(api.MaxTokens, many, "")})
}

// P3.6, Z2
func TestPatchKeepsArguments(t *testing.T) {
	fresh := func() []api.WordChange {
		return []api.WordChange{raw(0, words("a rest"), words("x y rest")), raw(2, words("c rest"), nil), change(9, "rest", "")}
	}
	l := fresh()
	l[0].Drop, l[0].Add, l[1].Drop = l[0].Drop[:1], l[0].Add[:2], l[1].Drop[:1]
	s, e := near.Patch("a b c", l[:2])
	is(t, []any{s, e}, []any{"x y b", api.OK})
	back, e := near.Turn("a b c", l[:2])
	is(t, e, api.OK)
	back[0].Drop[0], back[0].Add[0] = "changed", "changed"
	_ = append(back[0].Drop, "more")
	l[0].Drop, l[0].Add, l[1].Drop = l[0].Drop[:2], l[0].Add[:3], l[1].Drop[:2]
	isChanges(t, l, fresh())
}
