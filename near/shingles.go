package near

import (
	"cmp"
	"slices"
	"strings"

	"paperchase/api"
	"paperchase/ratio"
	"paperchase/sets"
)

const maxRun = 10 // words of a shingle

// Shingles returns the shingles of a string.
func Shingles(text string, k int) ([]string, api.Errno) {
	if len(text) > api.MaxBody {
		return nil, api.ErrLarge
	}
	if !isRun(k) {
		return nil, api.ErrArg
	}
	return shinglesOf(text, k), api.OK
}

func isRun(k int) bool { return 1 <= k && k <= maxRun }

func shinglesOf(text string, k int) []string {
	words := Words(text)
	if len(words) == 0 {
		return nil
	}
	k = min(k, len(words))
	var l []string
	for end := k; end <= len(words); end++ {
		l = append(l, strings.Join(words[end-k:end], " "))
	}
	slices.Sort(l)
	return slices.Compact(l)
}

// Resemblance returns how much two strings resemble each other.
func Resemblance(a, b string, k int) (api.Fraction, api.Errno) {
	return measure(a, b, k, resemblance[string])
}

// Containment returns how much of a is in b.
func Containment(a, b string, k int) (api.Fraction, api.Errno) {
	return measure(a, b, k, func(x, y []string) api.Fraction {
		return ratio.Part(sets.Shared(x, y), len(x))
	})
}

// measure compares the shingles of two strings.
func measure(a, b string, k int, how func(x, y []string) api.Fraction) (api.Fraction, api.Errno) {
	x, e := Shingles(a, k)
	if e != api.OK {
		return api.Fraction{}, e
	}
	y, e := Shingles(b, k)
	if e != api.OK {
		return api.Fraction{}, e
	}
	return how(x, y), api.OK
}

// resemblance returns which part of two sets, which rise, is in both.
func resemblance[T cmp.Ordered](a, b []T) api.Fraction {
	both := sets.Shared(a, b)
	return ratio.Part(both, len(a)+len(b)-both)
}
