package sample_test

import (
	"math/rand/v2"
	"strings"
	"testing"

	"paperchase/api"
	"paperchase/sample"
)

// hashOf is the Hash by the words of the document.
func hashOf(id, seed string) int {
	const all = 1 << 32
	h := uint64(2166136261)
	for _, s := range []string{seed, " ", id} {
		for i := range len(s) {
			h = (h ^ uint64(s[i])) * 16777619 % all
		}
	}
	for range 2 {
		h ^= h >> 15
		h = h * 2246822519 % all
	}
	return int(h ^ h>>13)
}

// P9.1
func TestHash(t *testing.T) {
	for _, c := range []struct {
		id, seed string
		want     int
	}{
		{"a", "seed", 2510428903},
		{"b", "seed", 31151875},
		{"c", "seed", 2158020109},
		{"a", "b", 2455577578},
		{"b", "a", 3703270536},
		{"a", "a", 3850413978},
		{"a-b_9", "x", 630392911},
		{"item-1", "matter-2026", 3768779330},
		{"i338523", "seed", 19570},
		{"i307719", "seed", 4294955001},
		{strings.Repeat("k", api.MaxName), strings.Repeat("z", api.MaxName), 750615126},
	} {
		got, e := sample.Hash(c.id, c.seed)
		gives(t, got, e, c.want)
	}
	for _, key := range badKeys() {
		got, e := sample.Hash(key, "seed")
		fails(t, got, e, api.ErrName)
		got, e = sample.Hash("a", key)
		fails(t, got, e, api.ErrName)
		got, e = sample.Hash(key, key)
		fails(t, got, e, api.ErrName)
	}
}

// key makes a key.
func key(r *rand.Rand) string {
	const bytes = "abcdefghijklmnopqrstuvwxyz0123456789-_"
	s := string(bytes[r.IntN(26)])
	for range r.IntN(api.MaxName) {
		s += string(bytes[r.IntN(len(bytes))])
	}
	return s
}

// P9.1
func TestHashRandom(t *testing.T) {
	r := rand.New(rand.NewPCG(9, 1))
	for range 10_000 {
		id, seed := key(r), key(r)
		got, e := sample.Hash(id, seed)
		gives(t, got, e, hashOf(id, seed))
	}
}
