package near

import (
	"cmp"

	"paperchase/api"
	"paperchase/ratio"
)

const maxTerm = 1_000_000

// Compare compares two fractions.
func Compare(a, b api.Fraction) (int, api.Errno) {
	if !isFraction(a) || !isFraction(b) {
		return 0, api.ErrForm
	}
	return compare(a, b), api.OK
}

func compare(a, b api.Fraction) int { return cmp.Compare(a.Num*b.Den, b.Num*a.Den) }

func isFraction(f api.Fraction) bool {
	right := 1 <= f.Den && f.Den <= maxTerm && 0 <= f.Num && f.Num <= maxTerm
	return right && ratio.Lowest(f.Num, f.Den) == f
}

func isPercent(n int) bool { return 1 <= n && n <= 100 }

func atLeast(f api.Fraction, percent int) bool { return f.Num*100 >= percent*f.Den }
