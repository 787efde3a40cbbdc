// Package ratio makes fractions in lowest terms.
package ratio

import "paperchase/api"

// Lowest returns a quotient in lowest terms; den is above 0.
func Lowest(num, den int) api.Fraction {
	d := divisor(max(num, -num), den)
	return api.Fraction{Num: num / d, Den: den / d}
}

// Part returns which part some are of all; 1 if there are none at all.
func Part(some, all int) api.Fraction {
	if all == 0 {
		return api.Fraction{Num: 1, Den: 1}
	}
	return Lowest(some, all)
}

// divisor returns the greatest number that divides both a and b, which is above 0.
func divisor(a, b int) int {
	for a > 0 {
		a, b = b%a, a
	}
	return b
}
