package tree

import (
	"slices"
	"testing"
)

func TestCircles(t *testing.T) {
	for _, c := range []struct{ up, want []int }{
		{nil, nil},
		{[]int{None}, nil},
		{[]int{0}, []int{0}},
		{[]int{None, 0, 0, 2, 1}, nil},
		{[]int{1, 2, None}, nil},
		{[]int{1, 0}, []int{0}},
		{[]int{1, 2, 3, 1}, []int{1}},
		{[]int{None, 2, 1, 2, 0, 5, 7, 8, 6, 8}, []int{1, 5, 6}},
	} {
		before := slices.Clone(c.up)
		if got := Circles(c.up); !slices.Equal(got, c.want) {
			t.Errorf("%v: got %v, want %v", c.up, got, c.want)
		}
		if !slices.Equal(c.up, before) {
			t.Errorf("%v became %v", before, c.up)
		}
	}
}
