package query

import (
	"iter"
	"math/bits"

	"paperchase/api"
)

const (
	// A FindNear has at most two places and MaxNear words between.
	longest  = api.MaxWords<<maxLinks + api.MaxNear*(1<<maxLinks-1)
	partLong = 64
)

// lengths is a set of numbers from 0 to longest - 1, a bit for each.
type lengths [(longest + partLong - 1) / partLong]uint64

func (s *lengths) add(n int) { s[n/partLong] |= 1 << (n % partLong) }

func (s *lengths) join(t lengths) {
	for i := range s {
		s[i] |= t[i]
	}
}

func (s lengths) shared(t lengths) lengths {
	for i := range s {
		s[i] &= t[i]
	}
	return s
}

func (s lengths) isEmpty() bool { return s == lengths{} }

// all returns the numbers, rising.
func (s lengths) all() iter.Seq[int] {
	return func(yield func(int) bool) {
		for i, part := range s {
			for ; part != 0; part &= part - 1 {
				if !yield(i*partLong + bits.TrailingZeros64(part)) {
					return
				}
			}
		}
	}
}

// up returns the set of the numbers that are greater by some.
func (s lengths) up(by int) lengths {
	var t lengths
	parts, rest := by/partLong, by%partLong
	for i := parts; i < len(s); i++ {
		t[i] = s[i-parts] << rest
		if i > parts {
			t[i] |= s[i-parts-1] >> (partLong - rest)
		}
	}
	return t
}

// down returns the set of the numbers that are less by some, without those that would be below 0.
func (s lengths) down(by int) lengths {
	var t lengths
	parts, rest := by/partLong, by%partLong
	for i := parts; i < len(s); i++ {
		t[i-parts] = s[i] >> rest
		if i+1 < len(s) {
			t[i-parts] |= s[i+1] << (partLong - rest)
		}
	}
	return t
}
