// Package tree has what is common to numbered things that have parents: up[i] is the number of the parent of i, or None.
package tree

// None is the number of no thing.
const None = -1

// Circles returns for each circle, in which parents lead back to where one began, one that is in it.
func Circles(up []int) []int {
	var l []int
	walks := make([]int, len(up)) // which walk came by first, counted from 1 on
	for i := range up {
		at := i
		for at != None && walks[at] == 0 {
			walks[at] = i + 1
			at = up[at]
		}
		if at != None && walks[at] == i+1 {
			l = append(l, at)
		}
	}
	return l
}
