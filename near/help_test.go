package near_test

import (
	"math/rand/v2"
	"reflect"
	"slices"
	"strconv"
	"strings"
	"testing"

	"paperchase/api"
	"paperchase/near"
)

// is compares values; an empty and a nil list are the same (Z5).
func is(t *testing.T, got, want any) {
	t.Helper()
	if !reflect.DeepEqual(got, want) && !(isEmptyList(got) && isEmptyList(want)) {
		t.Errorf("got %+v, want %+v", got, want)
	}
}

func isEmptyList(x any) bool {
	v := reflect.ValueOf(x)
	return v.Kind() == reflect.Slice && v.Len() == 0
}

// fails checks an error, and that all other results are zero values (Z3).
func fails(t *testing.T, e, want api.Errno, results ...any) {
	t.Helper()
	if e != want {
		t.Errorf("got error %d, want %d", e, want)
	}
	for _, r := range results {
		if !isEmptyList(r) && !reflect.ValueOf(r).IsZero() {
			t.Errorf("with error %d got %+v", e, r)
		}
	}
}

func words(s string) []string { return strings.Fields(s) }

// name makes strings that are in order.
func name(start string, i int) string { return start + strconv.Itoa(1_000_000 + i)[1:] }

func xs(many int) string { return strings.Repeat("x", many) }

func fraction(num, den int) api.Fraction { return api.Fraction{Num: num, Den: den} }

// bodies makes a document of each string: a, b, c and so on.
func bodies(texts ...string) []api.Body {
	var l []api.Body
	for i, text := range texts {
		l = append(l, api.Body{Id: string(rune('a' + i)), Text: text})
	}
	return l
}

// alike makes documents with the same string.
func alike(many int, text string) []api.Body {
	var l []api.Body
	for i := range many {
		l = append(l, api.Body{Id: name("d", i), Text: text})
	}
	return l
}

// badBodies are documents with the errors of CheckBodies.
func badBodies() []struct {
	e api.Errno
	l []api.Body
} {
	good := api.Body{Id: "a", Text: "x"}
	long := api.Body{Id: "b", Text: xs(api.MaxBody + 1)}
	full := alike(25, xs(api.MaxBody))
	return []struct {
		e api.Errno
		l []api.Body
	}{
		{api.ErrLarge, alike(api.MaxBodies+1, "")},
		{api.ErrLarge, slices.Repeat([]api.Body{{Id: "?"}}, api.MaxBodies+1)},
		{api.ErrName, []api.Body{good, {}}},
		{api.ErrName, []api.Body{good, {Id: "A", Text: long.Text}}},
		{api.ErrName, []api.Body{{Id: xs(api.MaxName + 1)}, good, good}},
		{api.ErrTwice, []api.Body{good, {Id: "c"}, {Id: "a", Text: long.Text}}},
		{api.ErrTwice, []api.Body{good, good, {Id: "?"}}},
		{api.ErrLarge, []api.Body{good, long, good}},
		{api.ErrLarge, append(slices.Clone(full), good)},
		{api.ErrTwice, append(slices.Clone(full), good, good)},
	}
}

// eachBadList calls a function with documents that CheckBodies does not accept.
func eachBadList(t *testing.T, call func(l []api.Body) (any, api.Errno)) {
	t.Helper()
	for _, c := range badBodies() {
		got, e := call(c.l)
		fails(t, e, c.e, got)
	}
}

// keepsBodies calls a function with a list of documents that has room, and checks that it is as before (Z2).
func keepsBodies(t *testing.T, call func(l []api.Body)) {
	t.Helper()
	fresh := func() []api.Body { return bodies("z y x", "b a", "c b a", "b a", "", "rest") }
	l := fresh()
	call(l[:5])
	is(t, l, fresh())
}

func shingles(t *testing.T, text string, k int) []string {
	t.Helper()
	l, e := near.Shingles(text, k)
	is(t, e, api.OK)
	return l
}

func resemblance(t *testing.T, a, b string, k int) api.Fraction {
	t.Helper()
	f, e := near.Resemblance(a, b, k)
	is(t, e, api.OK)
	return f
}

func isAtLeast(f api.Fraction, percent int) bool { return f.Num*100 >= percent*f.Den }

// greaterFirst compares fractions.
func greaterFirst(a, b api.Fraction) int { return b.Num*a.Den - a.Num*b.Den }

func pick(r *rand.Rand, l ...string) string { return l[r.IntN(len(l))] }

// randomText has few words, so that much is shared.
func randomText(r *rand.Rand, most int) string {
	var l []string
	for range r.IntN(most + 1) {
		l = append(l, pick(r, "a", "b", "c", "A", "d"))
	}
	return strings.Join(l, pick(r, " ", "\n", ", "))
}

// randomBytes is a string of signs that are told apart.
func randomBytes(r *rand.Rand, most int) string {
	s := ""
	for range r.IntN(most + 1) {
		s += pick(r, " ", " ", "\n", "a", "B", "9", "-", "\t", "\x00", "é", "\xff", "\u00a0", "\r")
	}
	return s
}

// randomBodies are documents with different Ids in any order.
func randomBodies(r *rand.Rand) []api.Body {
	var l []api.Body
	for i := range r.IntN(9) {
		l = append(l, api.Body{Id: string(rune('a' + i)), Text: randomText(r, 8)})
	}
	return shuffled(r, l)
}

func shuffled(r *rand.Rand, l []api.Body) []api.Body {
	l = slices.Clone(l)
	r.Shuffle(len(l), func(i, j int) { l[i], l[j] = l[j], l[i] })
	return l
}
