// Package sets has sets as lists that rise.
package sets

import (
	"cmp"
	"slices"
)

// Numberer gives numbers to strings, equal ones to equal strings.
type Numberer map[string]int

// Numbers returns those of different strings, rising.
func (n Numberer) Numbers(l []string) []int {
	var numbers []int
	for _, s := range l {
		number, ok := n[s]
		if !ok {
			number = len(n)
			n[s] = number
		}
		numbers = append(numbers, number)
	}
	slices.Sort(numbers)
	return numbers
}

// Shared returns how many elements are in both of two lists that rise.
func Shared[T cmp.Ordered](a, b []T) int {
	many, i, j := 0, 0, 0
	for i < len(a) && j < len(b) {
		switch {
		case a[i] < b[j]:
			i++
		case a[i] > b[j]:
			j++
		default:
			many++
			i++
			j++
		}
	}
	return many
}
