package near

import (
	"slices"
	"strconv"

	"paperchase/api"
	"paperchase/intake"
	"paperchase/ratio"
)

const maxSketch = 200

// Sketch returns the sketch of a string.
func Sketch(text string, k, size int) ([]int, api.Errno) {
	shingles, e := Shingles(text, k)
	if e != api.OK {
		return nil, e
	}
	if !isSketchSize(size) {
		return nil, api.ErrArg
	}
	var hashes []int
	for _, shingle := range shingles {
		hashes = append(hashes, hash(shingle))
	}
	return leastOf(hashes, size), api.OK
}

func isSketchSize(n int) bool { return 1 <= n && n <= maxSketch }

// hash returns half of the hash that Digest writes.
func hash(s string) int {
	h, _ := strconv.ParseUint(intake.Digest(s), 16, 64)
	return int(h / 2)
}

// leastOf returns the least ones of numbers, which it sorts, each once.
func leastOf(l []int, many int) []int {
	slices.Sort(l)
	l = slices.Compact(l)
	return l[:min(many, len(l))]
}

// Estimate returns how much the strings of two sketches resemble each other.
func Estimate(a, b []int, size int) (api.Fraction, api.Errno) {
	if !isSketchSize(size) {
		return api.Fraction{}, api.ErrArg
	}
	for _, sketch := range [][]int{a, b} {
		if e := checkSketch(sketch, size); e != api.OK {
			return api.Fraction{}, e
		}
	}
	least := leastOf(slices.Concat(a, b), size)
	both := 0
	for _, n := range least {
		_, inA := slices.BinarySearch(a, n)
		_, inB := slices.BinarySearch(b, n)
		if inA && inB {
			both++
		}
	}
	return ratio.Part(both, len(least)), api.OK
}

func checkSketch(l []int, size int) api.Errno {
	if len(l) > size {
		return api.ErrLarge
	}
	for i, n := range l {
		if n < 0 {
			return api.ErrArg
		}
		if i > 0 && n <= l[i-1] {
			return api.ErrOrder
		}
	}
	return api.OK
}
