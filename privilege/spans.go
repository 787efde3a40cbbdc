package privilege

import (
	"slices"

	"paperchase/api"
	"paperchase/sets"
)

// CheckSpans validates spans.
func CheckSpans(l []api.Span, size int) api.Errno {
	if size < 0 || size > api.MaxText {
		return api.ErrArg
	}
	if len(l) > api.MaxSpans {
		return api.ErrLarge
	}
	last := -1
	for _, s := range l {
		if s.From < 0 || s.From >= s.To || s.To > size {
			return api.ErrArg
		}
		if s.From <= last {
			return api.ErrOrder
		}
		last = s.To
	}
	return api.OK
}

// checkBoth validates two lists of spans.
func checkBoth(a, b []api.Span, size int) api.Errno {
	if e := CheckSpans(a, size); e != api.OK {
		return e
	}
	return CheckSpans(b, size)
}

// bounded returns spans if they are not too many.
func bounded(l []api.Span) ([]api.Span, api.Errno) {
	if len(l) > api.MaxSpans {
		return nil, api.ErrLarge
	}
	return l, api.OK
}

// Union returns the bytes of both.
func Union(a, b []api.Span, size int) ([]api.Span, api.Errno) {
	if e := checkBoth(a, b, size); e != api.OK {
		return nil, e
	}
	both := slices.Concat(a, b)
	slices.SortFunc(both, func(x, y api.Span) int { return x.From - y.From })
	return bounded(sets.Together(both))
}

// Without returns the bytes of a that are none of b.
func Without(a, b []api.Span, size int) ([]api.Span, api.Errno) {
	if e := checkBoth(a, b, size); e != api.OK {
		return nil, e
	}
	var rest []api.Span
	for _, s := range a {
		from := s.From // of what is not looked at yet
		for _, t := range b {
			if t.To <= from || t.From >= s.To {
				continue
			}
			if from < t.From {
				rest = append(rest, api.Span{From: from, To: t.From})
			}
			from = t.To
		}
		if from < s.To {
			rest = append(rest, api.Span{From: from, To: s.To})
		}
	}
	return bounded(rest)
}
