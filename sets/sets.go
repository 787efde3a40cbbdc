// Package sets has sets as lists that rise.
package sets

import (
	"cmp"
	"slices"

	"paperchase/api"
)

// Rising checks that each element is right, with an error of its own, and greater than the one before.
func Rising[T cmp.Ordered](l []T, right func(T) bool, wrong api.Errno) api.Errno {
	for i, x := range l {
		if !right(x) {
			return wrong
		}
		if i > 0 && x <= l[i-1] {
			return api.ErrOrder
		}
	}
	return api.OK
}

// Has says whether an element is in a list that rises.
func Has[T cmp.Ordered](l []T, x T) bool {
	_, ok := slices.BinarySearch(l, x)
	return ok
}

// Admits says whether an element is in a list that rises, where none at all stand for every one.
func Admits[T cmp.Ordered](l []T, x T) bool { return len(l) == 0 || Has(l, x) }

// Numberer gives numbers to strings, equal ones to equal strings.
type Numberer map[string]int

// Numbers returns those of different strings, rising.
func (n Numberer) Numbers(l []string) []int {
	var numbers []int
	for _, s := range l {
		number, ok := n[s]
		if !ok {
			number = len(n)
			n[s] = number
		}
		numbers = append(numbers, number)
	}
	slices.Sort(numbers)
	return numbers
}

// Shared returns how many elements are in both of two lists that rise.
func Shared[T cmp.Ordered](a, b []T) int {
	many, i, j := 0, 0, 0
	for i < len(a) && j < len(b) {
		switch {
		case a[i] < b[j]:
			i++
		case a[i] > b[j]:
			j++
		default:
			many++
			i++
			j++
		}
	}
	return many
}
