package sets

import (
	"slices"
	"testing"

	"paperchase/api"
)

func TestTogether(t *testing.T) {
	for _, c := range []struct{ l, want []api.Span }{
		{nil, nil},
		{[]api.Span{{From: 2, To: 5}}, []api.Span{{From: 2, To: 5}}},
		{[]api.Span{{From: 2, To: 5}, {From: 6, To: 7}}, []api.Span{{From: 2, To: 5}, {From: 6, To: 7}}},
		{[]api.Span{{From: 2, To: 5}, {From: 5, To: 7}}, []api.Span{{From: 2, To: 7}}},
		{[]api.Span{{From: 2, To: 9}, {From: 3, To: 5}, {From: 8, To: 11}, {From: 12, To: 13}}, []api.Span{{From: 2, To: 11}, {From: 12, To: 13}}},
		{[]api.Span{{From: 2, To: 3}, {From: 2, To: 3}, {From: 2, To: 5}}, []api.Span{{From: 2, To: 5}}},
	} {
		before := slices.Clone(c.l)
		if got := Together(c.l); !slices.Equal(got, c.want) {
			t.Errorf("%v: got %v, want %v", c.l, got, c.want)
		}
		if !slices.Equal(c.l, before) {
			t.Errorf("%v became %v", before, c.l)
		}
	}
}
