package near_test

import (
	"cmp"
	"math/rand/v2"
	"slices"
	"strings"
	"testing"

	"paperchase/api"
	"paperchase/near"
)

func change(at int, drop, add string) api.WordChange {
	return api.WordChange{At: at, Drop: near.Tokens(drop), Add: near.Tokens(add)}
}

// isChanges compares changes; an empty and a nil list are the same (Z5).
func isChanges(t *testing.T, got, want []api.WordChange) {
	t.Helper()
	same := slices.EqualFunc(got, want, func(x, y api.WordChange) bool {
		return x.At == y.At && slices.Equal(x.Drop, y.Drop) && slices.Equal(x.Add, y.Add)
	})
	if !same {
		t.Errorf("got %+v, want %+v", got, want)
	}
}

func differ(t *testing.T, a, b string) []api.WordChange {
	t.Helper()
	l, e := near.Differ(a, b)
	is(t, e, api.OK)
	return l
}

// P3.6
func TestDiffer(t *testing.T) {
	for _, c := range []struct {
		a, b     string
		want     []api.WordChange
		distance int
		marked   string
	}{
		{"", "", nil, 0, ""},
		{"a  b", " a b ", nil, 0, "a b"},
		{"a b c", "a d c", []api.WordChange{change(1, "b", "d")}, 2, "a [-b-] {+d+} c"},
		{"", "a b", []api.WordChange{change(0, "", "a b")}, 2, "{+a b+}"},
		{"a b", "", []api.WordChange{change(0, "a b", "")}, 2, "[-a b-]"},
		{"a", "b", []api.WordChange{change(0, "a", "b")}, 2, "[-a-] {+b+}"},
		{"a", "A", []api.WordChange{change(0, "a", "A")}, 2, "[-a-] {+A+}"},
		{"b", "a b c", []api.WordChange{change(0, "", "a"), change(1, "", "c")}, 2, "{+a+} b {+c+}"},
		{"a b c", "b", []api.WordChange{change(0, "a", ""), change(2, "c", "")}, 2, "[-a-] b [-c-]"},
		{"a b c d e", "x b y z d", []api.WordChange{change(0, "a", "x"), change(2, "c", "y z"), change(4, "e", "")}, 6, "[-a-] {+x+} b [-c-] {+y z+} d [-e-]"},
		// line feeds are tokens
		{"a\nb", "a b", []api.WordChange{change(1, "\n", "")}, 1, "a [-\n-] b"},
		{"a b", "a\n\nb", []api.WordChange{change(1, "", "\n\n")}, 2, "a {+\n\n+} b"},
		{"a\nb\n", "c\nb\n", []api.WordChange{change(0, "a", "c")}, 2, "[-a-] {+c+}\nb\n"},
		{"a\n b c", "a\nd\nc", []api.WordChange{change(2, "b", "d\n")}, 3, "a\n[-b-] {+d\n+} c"},
		// of several choices the least one in the first list, then in the second one
		{"a b", "b a", []api.WordChange{change(0, "", "b"), change(1, "b", "")}, 2, "{+b+} a [-b-]"},
		{"a b c", "c a", []api.WordChange{change(0, "", "c"), change(1, "b c", "")}, 3, "{+c+} a [-b c-]"},
		{"a a", "a", []api.WordChange{change(1, "a", "")}, 1, "a [-a-]"},
		{"a", "a a", []api.WordChange{change(1, "", "a")}, 1, "a {+a+}"},
		{"a x a", "y a a", []api.WordChange{change(0, "", "y"), change(1, "x", "")}, 2, "{+y+} a [-x-] a"},
		// the first token is kept only if as many are kept then
		{"c a b", "a b c", []api.WordChange{change(0, "c", ""), change(3, "", "c")}, 2, "[-c-] a b {+c+}"},
		{"a b a b", "b a b a", []api.WordChange{change(0, "", "b"), change(3, "b", "")}, 2, "{+b+} a b a [-b-]"},
		// signs of Marked and broken UTF-8 are nothing special
		{"[-a-]", "{+a+}", []api.WordChange{change(0, "[-a-]", "{+a+}")}, 2, "[-[-a-]-] {+{+a+}+}"},
		{"\xff\t \xfe", "\xff\t", []api.WordChange{change(1, "\xfe", "")}, 1, "\xff\t [-\xfe-]"},
	} {
		isChanges(t, differ(t, c.a, c.b), c.want)
		n, e := near.Distance(c.a, c.b)
		is(t, []any{n, e}, []any{c.distance, api.OK})
		s, e := near.Marked(c.a, c.b)
		is(t, []any{s, e}, []any{c.marked, api.OK})
	}
}

// choice is the numbers of kept tokens in both lists.
type choice struct{ first, second []int }

// choices returns all tokens that can be kept of two lists, from some numbers on.
func choices(a, b []string, i, j int) []choice {
	l := []choice{{}}
	for x := i; x < len(a); x++ {
		for y := j; y < len(b); y++ {
			if a[x] != b[y] {
				continue
			}
			for _, rest := range choices(a, b, x+1, y+1) {
				l = append(l, choice{append([]int{x}, rest.first...), append([]int{y}, rest.second...)})
			}
		}
	}
	return l
}

// changesOf returns the changes between the kept tokens, token by token.
func changesOf(a, b []string, kept choice) []api.WordChange {
	var l []api.WordChange
	c := api.WordChange{}
	i, j := 0, 0
	for at := 0; at <= len(kept.first); at++ {
		toFirst, toSecond := len(a), len(b)
		if at < len(kept.first) {
			toFirst, toSecond = kept.first[at], kept.second[at]
		}
		c = api.WordChange{At: i}
		for ; i < toFirst; i++ {
			c.Drop = append(c.Drop, a[i])
		}
		for ; j < toSecond; j++ {
			c.Add = append(c.Add, b[j])
		}
		if len(c.Drop)+len(c.Add) > 0 {
			l = append(l, c)
		}
		i, j = i+1, j+1
	}
	return l
}

// P3.6: against all choices of kept tokens.
func TestDifferOfAnything(t *testing.T) {
	r := rand.New(rand.NewPCG(3, 6))
	for range 3_000 {
		a, b := randomText(r, 6), randomText(r, 6)
		first, second := near.Tokens(a), near.Tokens(b)
		best := slices.MinFunc(choices(first, second, 0, 0), func(x, y choice) int {
			return cmp.Or(len(y.first)-len(x.first), slices.Compare(x.first, y.first), slices.Compare(x.second, y.second))
		})
		isChanges(t, differ(t, a, b), changesOf(first, second, best))
		n, e := near.Distance(a, b)
		is(t, []any{n, e}, []any{len(first) + len(second) - 2*len(best.first), api.OK})
		back, _ := near.Distance(b, a)
		is(t, back, n)
	}
}

// P3.6: there and back.
func TestThereAndBack(t *testing.T) {
	r := rand.New(rand.NewPCG(3, 6))
	for range 3_000 {
		a, b := randomBytes(r, 12), randomBytes(r, 12)
		l := differ(t, a, b)
		there, e := near.Patch(a, l)
		is(t, []any{there, e}, []any{near.Join(near.Tokens(b)), api.OK})
		turned, e := near.Turn(a, l)
		is(t, e, api.OK)
		back, e := near.Patch(there, turned)
		is(t, []any{back, e}, []any{near.Join(near.Tokens(a)), api.OK})
		again, e := near.Turn(there, turned)
		is(t, e, api.OK)
		isChanges(t, again, l)
	}
}

// P3.6
func TestDifferErrors(t *testing.T) {
	good := strings.Repeat("a ", api.MaxTokens)
	for _, large := range []string{good + "a", strings.Repeat("\n", api.MaxTokens+1), xs(api.MaxBody + 1), strings.Repeat(" ", api.MaxBody+1)} {
		for _, other := range []string{"", large} {
			l, e := near.Differ(large, other)
			fails(t, e, api.ErrLarge, l)
			l, e = near.Differ(other, large)
			fails(t, e, api.ErrLarge, l)
			n, e := near.Distance(large, other)
			fails(t, e, api.ErrLarge, n)
			n, e = near.Distance(other, large)
			fails(t, e, api.ErrLarge, n)
			s, e := near.Marked(large, other)
			fails(t, e, api.ErrLarge, s)
			s, e = near.Marked(other, large)
			fails(t, e, api.ErrLarge, s)
		}
	}
	isChanges(t, differ(t, good, xs(api.MaxBody)), []api.WordChange{change(0, good, xs(api.MaxBody))})
}

// P3.6, Z1: as many tokens as can be, in the longest strings.
func TestDifferLargest(t *testing.T) {
	a, b := strings.Repeat("aaaaaaaaa aaaaaaaab ", api.MaxTokens/2), strings.Repeat("aaaaaaaab aaaaaaaaa ", api.MaxTokens/2)
	n, e := near.Distance(a, b)
	is(t, []any{n, e}, []any{2, api.OK})
	isChanges(t, differ(t, a, b), []api.WordChange{change(0, "", "aaaaaaaab"), change(api.MaxTokens-1, "aaaaaaaab", "")})
	other := strings.Repeat("aaaaaaaac aaaaaaaad ", api.MaxTokens/2)
	marked, e := near.Marked(a, other)
	is(t, []any{marked, e}, []any{"[-" + strings.TrimSpace(a) + "-] {+" + strings.TrimSpace(other) + "+}", api.OK})
	// a change beside each token that is kept
	a, b = strings.Repeat("a b ", api.MaxTokens/2), strings.Repeat("a c ", api.MaxTokens/2)
	l := differ(t, a, b)
	is(t, len(l), api.MaxTokens/2)
	there, e := near.Patch(a, l)
	is(t, []any{there, e}, []any{strings.TrimSpace(b), api.OK})
}

// P3.6, Z2: no list of a result shares memory with another one.
func TestDifferIsNew(t *testing.T) {
	l := differ(t, "a b c d e", "x y b z d w")
	want := differ(t, "a b c d e", "x y b z d w")
	for i := range l {
		// enough to reach the next change, if they shared memory
		_ = append(l[i].Drop, "more", "more")
		_ = append(l[i].Add, "more", "more")
	}
	isChanges(t, l, want)
}
