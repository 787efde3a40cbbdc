package sample_test

import (
	"math/rand/v2"
	"slices"
	"testing"

	"paperchase/api"
	"paperchase/sample"
)

// P9.1: with the seed `seed` b comes first, then c, then a.
func TestLeast(t *testing.T) {
	for _, c := range []struct {
		ids  string
		many int
		want string
	}{
		{"", 0, ""},
		{"", 3, ""},
		{"a b c", 0, ""},
		{"a b c", 1, "b"},
		{"a b c", 2, "b c"},
		{"a b c", 3, "a b c"},
		{"a b c", 4, "a b c"},
		{"a b c", api.MaxItems, "a b c"},
		{"a c", 1, "c"},
		{"a b", 1, "b"},
		// Of these two and two have the same Hash.
		{"i149192 i312789", 1, "i149192"},
		{"i149599 i312382", 1, "i149599"},
		{"i149598 i312383", 1, "i149598"},
		{"i149192 i149599 i312382 i312789", 1, "i149192"},
		{"i149192 i149599 i312382 i312789", 3, "i149192 i149599 i312789"},
	} {
		got, e := sample.Least(words(c.ids), "seed", c.many)
		gives(t, got, e, words(c.want))
	}
	ids := names("i", api.MaxItems)
	got, e := sample.Least(ids, "seed", api.MaxItems)
	gives(t, got, e, ids)
	for _, many := range outside(0, api.MaxItems) {
		got, e := sample.Least(words("a b"), "seed", many)
		fails(t, got, e, api.ErrArg)
	}
	eachBadSource(t, func(ids []string, seed string) (any, api.Errno) {
		return sample.Least(ids, seed, -1)
	})
	ids = roomy(words("a b c"))
	for many := range 4 {
		keeps(t, func() any {
			got, _ := sample.Least(ids, "seed", many)
			return got
		}, ids)
	}
}

// P9.1
func TestLeastRandom(t *testing.T) {
	r := rand.New(rand.NewPCG(9, 11))
	for range 500 {
		ids, seed := someOf(r, names("i", 60)), key(r)
		many := r.IntN(70)
		got, e := sample.Least(ids, seed, many)
		is(t, e, api.OK)
		is(t, len(got), min(many, len(ids)))
		is(t, slices.IsSorted(got), true)
		for _, id := range ids {
			less := 0
			for _, other := range ids {
				if hashOf(other, seed) < hashOf(id, seed) {
					less++
				}
			}
			is(t, slices.Contains(got, id), less < many) // no two of these have the same Hash
		}
	}
}

// P9.1
func TestPart(t *testing.T) {
	for _, c := range []struct {
		ids   string
		share api.Fraction
		want  string
	}{
		{"", fraction(1, 1), ""},
		{"a b c", fraction(0, 1), ""},
		{"a b c", fraction(0, 1_000_000), ""},
		{"a b c", fraction(1, 1), "a b c"},
		{"a b c", fraction(1_000_000, 1_000_000), "a b c"},
		{"a b c", fraction(1, 2), "b"},
		{"a b c", fraction(7, 14), "b"},
		{"a b c", fraction(52, 100), "b c"},
		{"a b c", fraction(59, 100), "a b c"},
		// The least and the greatest Hash.
		{"i307719 i338523", fraction(4, 1_000_000), ""},
		{"i307719 i338523", fraction(5, 1_000_000), "i338523"},
		{"i307719 i338523", fraction(999_997, 1_000_000), "i338523"},
		{"i307719 i338523", fraction(999_998, 1_000_000), "i307719 i338523"},
		// A Hash that is as great as the share of all of them.
		{"i2833", fraction(14_570, 524_288), ""},
		{"i2833", fraction(7_285, 262_144), ""},
		{"i2833", fraction(14_571, 524_288), "i2833"},
	} {
		got, e := sample.Part(words(c.ids), "seed", c.share)
		gives(t, got, e, words(c.want))
	}
	ids := names("i", api.MaxItems)
	got, e := sample.Part(ids, "seed", fraction(1, 1))
	gives(t, got, e, ids)
	for _, share := range badShares() {
		got, e := sample.Part(words("a b"), "seed", share)
		fails(t, got, e, api.ErrArg)
	}
	eachBadSource(t, func(ids []string, seed string) (any, api.Errno) {
		return sample.Part(ids, seed, api.Fraction{})
	})
	ids = roomy(words("a b c"))
	for _, share := range []api.Fraction{fraction(0, 1), fraction(1, 2), fraction(1, 1)} {
		keeps(t, func() any {
			got, _ := sample.Part(ids, "seed", share)
			return got
		}, ids)
	}
}

// P9.1: an id is in the parts with shares above a certain one; that of some ids is what is in that of all and among them.
func TestPartRandom(t *testing.T) {
	r := rand.New(rand.NewPCG(9, 12))
	all := names("i", 200)
	for range 300 {
		seed, den := key(r), 1+r.IntN(1_000_000)
		one := all[r.IntN(len(all))]
		share := hashOf(one, seed) * den / (1 << 32)
		for num, want := range map[int]bool{max(share, 0): false, share + 1: true} {
			got, e := sample.Part(all, seed, fraction(num, den))
			is(t, e, api.OK)
			is(t, slices.IsSorted(got), true)
			is(t, slices.Contains(got, one), want)
			for _, id := range all {
				is(t, slices.Contains(got, id), hashOf(id, seed)*den < num*(1<<32))
			}
			some := someOf(r, all)
			part, e := sample.Part(some, seed, fraction(num, den))
			gives(t, part, e, slices.DeleteFunc(some, func(id string) bool { return !slices.Contains(got, id) }))
		}
	}
}

// P9.2
func TestSplit(t *testing.T) {
	for _, c := range []struct {
		ids     string
		weights []int
		want    []string
	}{
		{"", []int{1}, []string{""}},
		{"", []int{0, 5, 1}, []string{"", "", ""}},
		{"a b c", []int{1}, []string{"a b c"}},
		{"a b c", []int{1_000}, []string{"a b c"}},
		{"a b c", []int{1, 0}, []string{"a b c", ""}},
		{"a b c", []int{0, 1}, []string{"", "a b c"}},
		{"a b c", []int{0, 0, 7, 0}, []string{"", "", "a b c", ""}},
		{"a b c", []int{1, 1}, []string{"", "a b c"}}, // all have odd Hashes
		{"a b c", []int{5, 3, 2}, []string{"a", "b", "c"}},
		{"a b c", []int{3, 6, 1}, []string{"", "a b", "c"}}, // the Hashes end with 3, 5 and 9
		{"a b c", []int{4, 0, 6}, []string{"a", "", "b c"}},
		{"a b c", []int{2, 2, 1, 5}, []string{"", "a", "", "b c"}},
		{"a b c", []int{6, 3, 1}, []string{"a b", "", "c"}},
	} {
		var want [][]string
		for _, part := range c.want {
			want = append(want, words(part))
		}
		got, e := sample.Split(words(c.ids), "seed", c.weights)
		gives(t, got, e, want)
	}
	most := make([]int, api.MaxParts)
	most[7] = 1_000
	got, e := sample.Split(words("a b c"), "seed", most)
	is(t, e, api.OK)
	is(t, len(got), api.MaxParts)
	is(t, got[7], words("a b c"))
	ids := roomy(words("a b c"))
	weights := roomy([]int{1, 6, 0, 2})
	keeps(t, func() any {
		got, _ := sample.Split(ids, "seed", weights)
		return got
	}, ids, weights)
}

// P9.2
func TestSplitErrors(t *testing.T) {
	got, e := sample.Split(words("a b"), "seed", nil)
	fails(t, got, e, api.ErrForm)
	for _, weight := range []int{0, 1, -1} {
		got, e := sample.Split(words("a b"), "seed", slices.Repeat([]int{weight}, api.MaxParts+1))
		fails(t, got, e, api.ErrLarge)
	}
	for many := 1; many <= api.MaxParts; many++ {
		got, e := sample.Split(words("a b"), "seed", make([]int, many))
		fails(t, got, e, api.ErrArg)
	}
	for _, weight := range outside(0, 1_000) {
		for _, weights := range [][]int{{weight}, {weight, 1}, {1, weight}, {1, weight, 1_000}, {weight, -weight, 1}} {
			got, e := sample.Split(words("a b"), "seed", weights)
			fails(t, got, e, api.ErrArg)
		}
	}
	eachBadSource(t, func(ids []string, seed string) (any, api.Errno) {
		return sample.Split(ids, seed, nil)
	})
}

// P9.2
func TestSplitRandom(t *testing.T) {
	r := rand.New(rand.NewPCG(9, 2))
	for range 500 {
		ids, seed := someOf(r, names("i", 60)), key(r)
		weights := make([]int, 1+r.IntN(api.MaxParts))
		sum := 0
		for i := range weights {
			weights[i] = r.IntN(2) * r.IntN(1_001)
			sum += weights[i]
		}
		if sum == 0 {
			continue
		}
		want := make([][]string, len(weights))
		for _, id := range ids {
			rest, i := hashOf(id, seed)%sum, 0
			for rest >= weights[i] {
				rest -= weights[i]
				i++
			}
			want[i] = append(want[i], id)
		}
		got, e := sample.Split(ids, seed, weights)
		gives(t, got, e, want)
	}
}
