package sample_test

import (
	"math/rand/v2"
	"slices"
	"strings"
	"testing"

	"paperchase/api"
	"paperchase/sample"
)

// P9.2
func TestAllocate(t *testing.T) {
	all := slices.Repeat([]int{api.MaxItems}, api.MaxItems)
	ones := slices.Concat(slices.Repeat([]int{1}, api.MaxItems-1), []int{0})
	for _, c := range []struct {
		sizes []int
		many  int
		want  []int
	}{
		{nil, 0, nil},
		{nil, 5, nil},
		{[]int{0}, 0, []int{0}},
		{[]int{0, 0, 0}, 7, []int{0, 0, 0}},
		{[]int{9}, 4, []int{4}},
		{[]int{10, 20, 5}, 7, []int{2, 4, 1}},
		{[]int{10, 20, 5}, 0, []int{0, 0, 0}},
		{[]int{10, 20, 5}, 34, []int{10, 19, 5}},
		{[]int{10, 20, 5}, 35, []int{10, 20, 5}},
		{[]int{10, 20, 5}, 36, []int{10, 20, 5}},
		{[]int{10, 20, 5}, api.MaxItems, []int{10, 20, 5}},
		{[]int{1, 1, 1}, 1, []int{1, 0, 0}},
		{[]int{1, 1, 1}, 2, []int{1, 1, 0}},
		{[]int{0, 1, 1}, 1, []int{0, 1, 0}},
		{[]int{1, 2}, 1, []int{0, 1}},
		{[]int{1, 2}, 9, []int{1, 2}},
		{[]int{2, 3, 3}, 3, []int{1, 1, 1}},              // remainders 6, 1 and 1
		{[]int{3, 3, 2}, 3, []int{1, 1, 1}},              // remainders 1, 1 and 6
		{[]int{7, 4, 9, 2, 8}, 10, []int{2, 1, 3, 1, 3}}, // remainders 10, 10, 0, 20 and 20 of 30
		{all, api.MaxItems, slices.Repeat([]int{1}, api.MaxItems)},
		{all, api.MaxItems - 1, ones},
	} {
		got, e := sample.Allocate(c.sizes, c.many)
		gives(t, got, e, c.want)
	}
	for _, sizes := range [][]int{nil, {1, 2}} {
		for _, many := range outside(0, api.MaxItems) {
			got, e := sample.Allocate(sizes, many)
			fails(t, got, e, api.ErrArg)
		}
	}
	for _, size := range outside(0, api.MaxItems) {
		for _, sizes := range [][]int{{size}, {size, 3}, {3, size}, {size, size}, slices.Repeat([]int{size}, api.MaxItems)} {
			got, e := sample.Allocate(sizes, 1)
			fails(t, got, e, api.ErrArg)
		}
		got, e := sample.Allocate(slices.Repeat([]int{size}, api.MaxItems+1), 1)
		fails(t, got, e, api.ErrLarge)
	}
	got, e := sample.Allocate(make([]int, api.MaxItems+1), 1)
	fails(t, got, e, api.ErrLarge)
	sizes := roomy([]int{3, 5, 7})
	for _, many := range []int{0, 4, 15, 99} {
		keeps(t, func() any {
			got, _ := sample.Allocate(sizes, many)
			return got
		}, sizes)
	}
}

// P9.2: what is left goes to the greatest remainders, one by one.
func TestAllocateRandom(t *testing.T) {
	r := rand.New(rand.NewPCG(9, 21))
	for range 5_000 {
		sizes := make([]int, 1+r.IntN(1+r.IntN(60)))
		sum, most := 0, 1+r.IntN(1+r.IntN(1+r.IntN(api.MaxItems))) // most often small, so that remainders are equal
		for i := range sizes {
			sizes[i] = r.IntN(most + 1)
			sum += sizes[i]
		}
		many := r.IntN(min(2*sum, api.MaxItems) + 1)
		want := slices.Clone(sizes)
		if many < sum {
			remainders := make([]int, len(sizes))
			left := many
			for i, size := range sizes {
				want[i], remainders[i] = many*size/sum, many*size%sum
				left -= want[i]
			}
			for range left {
				i := slices.Index(remainders, slices.Max(remainders))
				want[i]++
				remainders[i] = 0
			}
		}
		got, e := sample.Allocate(sizes, many)
		gives(t, got, e, want)
		for i, n := range got {
			many -= n
			is(t, n <= sizes[i], true)
			sum -= n
		}
		is(t, min(many, sum), 0) // all that were asked for, or all that there are
	}
}

// strata makes strata from ids that begin with a name, divided by signs `;`.
func strata(s string) []api.Stratum {
	var l []api.Stratum
	for part := range strings.SplitSeq(s, ";") {
		name := words(part)
		l = append(l, api.Stratum{Name: name[0], Ids: name[1:]})
	}
	return l
}

// P9.2: with the seed `seed` b comes first, then c, then a.
func TestStrata(t *testing.T) {
	for _, c := range []struct {
		strata string
		many   int
		want   []string
	}{
		{"x", 5, []string{""}},
		{"x a b c", 0, []string{""}},
		{"x a b c", 2, []string{"b c"}},
		{"x a b c", 3, []string{"a b c"}},
		{"x a b c", 2_000, []string{"a b c"}},
		{"x a b;y c", 1, []string{"b", ""}},
		{"x a b;y c", 2, []string{"b", "c"}},
		{"x c;y a b", 2, []string{"c", "b"}},
		{"y b;x a c", 2, []string{"b", "c"}},
		{"y b;x a c", 3, []string{"b", "a c"}},
		{"y b;z;x a c", 4, []string{"b", "", "a c"}},
		{"a a;b b;c c", 2, []string{"a", "b", ""}},
	} {
		var want [][]string
		for _, part := range c.want {
			want = append(want, words(part))
		}
		got, e := sample.Strata(strata(c.strata), "seed", c.many)
		gives(t, got, e, want)
	}
	got, e := sample.Strata(nil, "seed", 9)
	gives(t, got, e, [][]string{})
	l := roomy(strata("x a b;y c;z"))
	for many := range 5 {
		keeps(t, func() any {
			got, _ := sample.Strata(l, "seed", many)
			return got
		}, l)
	}
}

// P9.2
func TestStrataAtBounds(t *testing.T) {
	var l []api.Stratum
	var want [][]string
	for _, name := range names("s", api.MaxParts) {
		ids := names(name, api.MaxItems)
		drawn, e := sample.Least(ids, "seed", 100)
		is(t, e, api.OK)
		l = append(l, api.Stratum{Name: name, Ids: ids})
		want = append(want, drawn)
	}
	got, e := sample.Strata(l, "seed", api.MaxItems)
	gives(t, got, e, want)
	got, e = sample.Strata(append(l, api.Stratum{}), "", -1)
	fails(t, got, e, api.ErrLarge)
}

// P9.2
func TestStrataErrors(t *testing.T) {
	for s, want := range map[string]api.Errno{
		"x a;x b":       api.ErrTwice,
		"x a;y b;x c":   api.ErrTwice,
		"x a;y a":       api.ErrTwice,
		"x a;y b;z a c": api.ErrTwice,
		"x a b;y c;z b": api.ErrTwice,
		"x a;y a;Z b":   api.ErrTwice, // the second one has the first error
		"x a;y a;z c b": api.ErrTwice,
		"x a;x b a":     api.ErrTwice, // its name comes before its ids
		"x a;x a":       api.ErrTwice,
		"x a;y b a":     api.ErrOrder,
		"x b a;x c":     api.ErrOrder,
		"x a;y a a":     api.ErrOrder,
		"x a;y a;y":     api.ErrTwice,
		"x a;y b b;Z":   api.ErrOrder,
		"x a;Y a":       api.ErrName,
		"x a;Y b a":     api.ErrName,
		"x a;y a A":     api.ErrName,
		"x a;y B;x":     api.ErrName,
		"x a A;y b a":   api.ErrName,
		"x a;y b;Z":     api.ErrName,
	} {
		for _, seed := range []string{"seed", ""} {
			got, e := sample.Strata(strata(s), seed, -1)
			fails(t, got, e, want)
		}
	}
	for _, name := range badKeys() {
		for _, ids := range [][]string{nil, words("b a"), words("c")} {
			got, e := sample.Strata(append(strata("x a"), api.Stratum{Name: name, Ids: ids}), "seed", 1)
			fails(t, got, e, api.ErrName)
		}
	}
	eachBadSource(t, func(ids []string, seed string) (any, api.Errno) {
		return sample.Strata(append(strata("x z"), api.Stratum{Name: "y", Ids: ids}), seed, -1)
	})
	for _, many := range outside(0, api.MaxItems) {
		for _, l := range [][]api.Stratum{nil, strata("x"), strata("x a;y b")} {
			got, e := sample.Strata(l, "seed", many)
			fails(t, got, e, api.ErrArg)
			got, e = sample.Strata(l, "Seed", many)
			fails(t, got, e, api.ErrName)
		}
	}
}

// P9.2
func TestStrataRandom(t *testing.T) {
	r := rand.New(rand.NewPCG(9, 22))
	for range 500 {
		l := make([]api.Stratum, 1+r.IntN(6))
		for i, name := range names("s", len(l)) {
			l[i].Name = name
		}
		for _, id := range names("i", r.IntN(60)) {
			s := &l[r.IntN(len(l))]
			s.Ids = append(s.Ids, id)
		}
		r.Shuffle(len(l), func(i, j int) { l[i], l[j] = l[j], l[i] })
		var sizes []int
		for _, s := range l {
			sizes = append(sizes, len(s.Ids))
		}
		seed, many := key(r), r.IntN(70)
		shares, e := sample.Allocate(sizes, many)
		is(t, e, api.OK)
		var want [][]string
		for i, share := range shares {
			drawn, e := sample.Least(l[i].Ids, seed, share)
			is(t, e, api.OK)
			want = append(want, drawn)
		}
		got, e := sample.Strata(l, seed, many)
		gives(t, got, e, want)
	}
}
