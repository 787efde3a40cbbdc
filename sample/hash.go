// Package sample draws samples, and says how much may have been missed.
package sample

import (
	"paperchase/api"
	"paperchase/shape"
)

const (
	hashes    = 1 << 32 // how many different ones there are
	hashStart = 2_166_136_261
	hashTimes = 16_777_619
	mixTimes  = 2_246_822_519
)

// Hash returns the number of an id by which it is drawn.
func Hash(id, seed string) (int, api.Errno) {
	if !shape.Key(id) || !shape.Key(seed) {
		return 0, api.ErrName
	}
	return hash(id, seed), api.OK
}

func hash(id, seed string) int {
	h := uint32(hashStart)
	for _, c := range []byte(seed + " " + id) {
		h = (h ^ uint32(c)) * hashTimes
	}
	for range 2 {
		h = (h ^ h>>15) * mixTimes
	}
	return int(h ^ h>>13)
}
