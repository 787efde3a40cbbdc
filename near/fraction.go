package near

import (
	"cmp"

	"paperchase/api"
)

const maxTerm = 1_000_000

// Compare compares two fractions.
func Compare(a, b api.Fraction) (int, api.Errno) {
	if !isFraction(a) || !isFraction(b) {
		return 0, api.ErrForm
	}
	return compare(a, b), api.OK
}

func compare(a, b api.Fraction) int { return cmp.Compare(a.Num*b.Den, b.Num*a.Den) }

func isFraction(f api.Fraction) bool {
	right := 1 <= f.Den && f.Den <= maxTerm && 0 <= f.Num && f.Num <= maxTerm
	return right && divisor(f.Num, f.Den) == 1
}

// divisor returns the greatest number that divides both a and b, which is above 0.
func divisor(a, b int) int {
	for a > 0 {
		a, b = b%a, a
	}
	return b
}

// part returns which part some are of all, in lowest terms; 1 if there are none at all.
func part(some, all int) api.Fraction {
	if all == 0 {
		return api.Fraction{Num: 1, Den: 1}
	}
	d := divisor(some, all)
	return api.Fraction{Num: some / d, Den: all / d}
}

func isPercent(n int) bool { return 1 <= n && n <= 100 }

func atLeast(f api.Fraction, percent int) bool { return f.Num*100 >= percent*f.Den }
