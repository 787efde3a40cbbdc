package sets

import (
	"math/rand/v2"
	"slices"
	"strings"
	"testing"

	"paperchase/api"
)

func TestNumbers(t *testing.T) {
	n := Numberer{}
	for _, c := range []struct {
		words string
		want  []int
	}{
		{"", nil},
		{"b a", []int{0, 1}},
		{"a c", []int{1, 2}},
		{"d c b a", []int{0, 1, 2, 3}},
		{"B", []int{4}},
	} {
		l := strings.Fields(c.words)
		if got := n.Numbers(l); !slices.Equal(got, c.want) {
			t.Errorf("%q: got %v, want %v", c.words, got, c.want)
		}
		if !slices.Equal(l, strings.Fields(c.words)) {
			t.Errorf("%q became %q", c.words, l)
		}
	}
}

func TestShared(t *testing.T) {
	for _, c := range []struct {
		a, b string
		want int
	}{
		{"", "", 0},
		{"", "a", 0},
		{"a", "a", 1},
		{"a", "b", 0},
		{"a b c", "b", 1},
		{"a c e", "b d f", 0},
		{"a b c d", "b c e", 2},
		{"c d", "a b c d", 2},
	} {
		a, b := strings.Fields(c.a), strings.Fields(c.b)
		if got, back := Shared(a, b), Shared(b, a); got != c.want || back != c.want {
			t.Errorf("%q, %q: got %d and %d, want %d", c.a, c.b, got, back, c.want)
		}
	}
	r := rand.New(rand.NewPCG(3, 3))
	for range 1_000 {
		a, b := someNumbers(r), someNumbers(r)
		want := 0
		for _, x := range a {
			if slices.Contains(b, x) {
				want++
			}
		}
		if got := Shared(a, b); got != want {
			t.Errorf("%v, %v: got %d, want %d", a, b, got, want)
		}
	}
}

func someNumbers(r *rand.Rand) []int {
	var l []int
	for x := range 12 {
		if r.IntN(2) == 0 {
			l = append(l, x)
		}
	}
	return l
}

func TestRising(t *testing.T) {
	right := func(s string) bool { return s != "x" }
	for _, c := range []struct {
		words string
		want  api.Errno
	}{
		{"", api.OK},
		{"a", api.OK},
		{"a b c", api.OK},
		{"a a", api.ErrOrder},
		{"b a", api.ErrOrder},
		{"a c b", api.ErrOrder},
		{"x", api.ErrKind},
		{"z x", api.ErrKind},
		{"b a x", api.ErrOrder},
		{"a x b a", api.ErrKind},
	} {
		if got := Rising(strings.Fields(c.words), right, api.ErrKind); got != c.want {
			t.Errorf("%q: got %d, want %d", c.words, got, c.want)
		}
	}
}

func TestHas(t *testing.T) {
	for _, c := range []struct {
		words       string
		has, admits bool
	}{
		{"", false, true},
		{"b", true, true},
		{"a b c", true, true},
		{"a b", true, true},
		{"a", false, false},
		{"a c", false, false},
		{"c d", false, false},
	} {
		l := strings.Fields(c.words)
		if has, admits := Has(l, "b"), Admits(l, "b"); has != c.has || admits != c.admits {
			t.Errorf("%q: got %v and %v", c.words, has, admits)
		}
	}
}
