// Package natural has numbers from 0 on that are as great as they come (P9.3).
package natural

import (
	"cmp"
	"slices"
)

const digitBits = 32

// Number is a number from 0 on; the zero value is 0.
type Number struct {
	digits []uint32 // the lowest one first; the last one is not 0
}

// Of returns a small number.
func Of(n uint32) Number { return trimmed([]uint32{n}) }

// trimmed returns the number of some digits, which it keeps, without the zeros in front of it.
func trimmed(digits []uint32) Number {
	for len(digits) > 0 && digits[len(digits)-1] == 0 {
		digits = digits[:len(digits)-1]
	}
	return Number{digits}
}

// digit returns a digit, also of those zeros that are not kept.
func (x Number) digit(i int) uint64 {
	if i < len(x.digits) {
		return uint64(x.digits[i])
	}
	return 0
}

// Plus returns a sum.
func (x Number) Plus(y Number) Number {
	digits := make([]uint32, max(len(x.digits), len(y.digits))+1)
	sum := uint64(0)
	for i := range digits {
		sum += x.digit(i) + y.digit(i)
		digits[i] = uint32(sum)
		sum >>= digitBits
	}
	return trimmed(digits)
}

// Times returns a product.
func (x Number) Times(y Number) Number {
	digits := make([]uint32, len(x.digits)+len(y.digits))
	for i, a := range x.digits {
		sum := uint64(0)
		for j, b := range y.digits {
			sum += uint64(a)*uint64(b) + uint64(digits[i+j])
			digits[i+j] = uint32(sum)
			sum >>= digitBits
		}
		digits[i+len(y.digits)] = uint32(sum)
	}
	return trimmed(digits)
}

// Over returns a quotient, rounded down; n is above 0.
func (x Number) Over(n uint32) Number {
	digits := make([]uint32, len(x.digits))
	rest := uint64(0)
	for i, digit := range slices.Backward(x.digits) {
		rest = rest<<digitBits + uint64(digit)
		digits[i] = uint32(rest / uint64(n))
		rest %= uint64(n)
	}
	return trimmed(digits)
}

// Compare compares two numbers.
func (x Number) Compare(y Number) int {
	for i := max(len(x.digits), len(y.digits)) - 1; i >= 0; i-- {
		if c := cmp.Compare(x.digit(i), y.digit(i)); c != 0 {
			return c
		}
	}
	return 0
}
