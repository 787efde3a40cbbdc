package privilege_test

import (
	"math"
	"math/rand/v2"
	"slices"
	"testing"

	"paperchase/api"
	"paperchase/privilege"
)

// P7.5
func TestCheckSpans(t *testing.T) {
	for _, l := range [][]api.Span{nil, spans("0 9"), spans("8 9"), spans("0 1 2 3 8 9"), spans("1 5 6 7")} {
		is(t, privilege.CheckSpans(l, 9), api.OK)
	}
	is(t, privilege.CheckSpans(nil, 0), api.OK)
	is(t, privilege.CheckSpans(manySpans(api.MaxSpans), api.MaxText), api.OK)
	is(t, privilege.CheckSpans([]api.Span{{From: 0, To: api.MaxText}}, api.MaxText), api.OK)
	is(t, privilege.CheckSpans(spans("0 1"), 0), api.ErrArg)
	for _, size := range []int{9, 20, api.MaxText} {
		eachBadSpans(t, size, func(l []api.Span) (api.Errno, []any) { return privilege.CheckSpans(l, size), nil })
	}
	for _, size := range []int{-1, api.MaxText + 1, math.MinInt, math.MaxInt} {
		is(t, privilege.CheckSpans(nil, size), api.ErrArg)
		is(t, privilege.CheckSpans(manySpans(api.MaxSpans+1), size), api.ErrArg)
	}
}

// P7.5
func TestUnion(t *testing.T) {
	for _, c := range []struct{ a, b, want string }{
		{"", "", ""},
		{"1 3", "", "1 3"},
		{"1 3", "1 3", "1 3"},
		{"1 3", "3 5", "1 5"},
		{"3 5", "1 3", "1 5"},
		{"1 3", "4 5", "1 3 4 5"},
		{"1 3 5 7", "3 5", "1 7"},
		{"1 9", "2 3 4 5", "1 9"},
		{"2 3 4 5", "1 9", "1 9"},
		{"1 4 6 8", "3 7 9 10", "1 8 9 10"},
		{"0 2", "18 20", "0 2 18 20"},
	} {
		got, e := privilege.Union(spans(c.a), spans(c.b), 20)
		gives(t, got, e, spans(c.want))
	}
	full := manySpans(api.MaxSpans)
	got, e := privilege.Union(full, full, api.MaxText)
	gives(t, got, e, full)
	got, e = privilege.Union(full[:999], full[1:], api.MaxText)
	gives(t, got, e, full)
	got, e = privilege.Union(full, []api.Span{{From: 5_000, To: 5_001}}, api.MaxText)
	fails(t, e, api.ErrLarge, got)
	eachBadPair(t, privilege.Union)
}

// P7.5
func TestWithout(t *testing.T) {
	for _, c := range []struct{ a, b, want string }{
		{"", "", ""},
		{"", "1 3", ""},
		{"1 3", "", "1 3"},
		{"1 3", "1 3", ""},
		{"1 3", "0 9", ""},
		{"1 3", "3 5", "1 3"},
		{"3 5", "1 3", "3 5"},
		{"1 5", "2 3", "1 2 3 5"},
		{"1 5", "1 2", "2 5"},
		{"1 5", "4 5", "1 4"},
		{"1 5", "0 2 3 9", "2 3"},
		{"1 9", "2 3 4 5", "1 2 3 4 5 9"},
		{"1 4 6 8", "3 7 9 10", "1 3 7 8"},
		{"1 3 5 7 9 11", "2 10", "1 2 10 11"},
		{"0 20", "0 1 19 20", "1 19"},
	} {
		got, e := privilege.Without(spans(c.a), spans(c.b), 20)
		gives(t, got, e, spans(c.want))
	}
	whole := []api.Span{{From: 0, To: 3_000}}
	holes := manySpans(api.MaxSpans)
	got, e := privilege.Without(whole, holes, 3_000)
	is(t, []any{len(got), e}, []any{api.MaxSpans, api.OK})
	holes[0].From, holes[0].To = 1, 1
	holes = holes[1:]
	got, e = privilege.Without(whole, append(holes, api.Span{From: 2_500, To: 2_501}), 3_000)
	fails(t, e, api.ErrLarge, got)
	eachBadPair(t, privilege.Without)
}

// eachBadPair calls a function with two lists of which one is wrong, the first one with other errors than the second.
func eachBadPair(t *testing.T, call func(a, b []api.Span, size int) ([]api.Span, api.Errno)) {
	t.Helper()
	for _, c := range badSpans(20) {
		got, e := call(c.l, manySpans(api.MaxSpans+1), 20)
		fails(t, e, c.e, got)
		got, e = call(c.l, spans("3 4 4 5"), 20)
		fails(t, e, c.e, got)
		got, e = call(spans("0 2 4 6"), c.l, 20)
		fails(t, e, c.e, got)
	}
	for _, size := range []int{-1, api.MaxText + 1} {
		got, e := call(nil, nil, size)
		fails(t, e, api.ErrArg, got)
	}
}

// P7.5: Union and Without are as the document's words say, byte by byte.
func TestSpansRandom(t *testing.T) {
	r := rand.New(rand.NewPCG(7, 5))
	for range 10_000 {
		size := r.IntN(16)
		a, b := randomSpans(r, size), randomSpans(r, size)
		inA, inB := maskOf(a, size), maskOf(b, size)
		both, rest := make([]bool, size), make([]bool, size)
		for i := range size {
			both[i], rest[i] = inA[i] || inB[i], inA[i] && !inB[i]
		}
		union, e := privilege.Union(a, b, size)
		gives(t, union, e, spansOf(both))
		back, e := privilege.Union(b, a, size)
		gives(t, back, e, union)
		without, e := privilege.Without(a, b, size)
		gives(t, without, e, spansOf(rest))
		is(t, privilege.CheckSpans(union, size), api.OK)
		is(t, privilege.CheckSpans(without, size), api.OK)
	}
}

// keepsSpans calls a function with spans that have room, spoils its results, and checks that the spans are as before (Z2).
func keepsSpans(t *testing.T, call func(l []api.Span) []api.Span) {
	t.Helper()
	fresh := spans("1 3 5 6 9 12 0 99")
	l := slices.Clone(fresh)
	got := call(l[:3])
	for i := range got {
		got[i] = api.Span{}
	}
	_ = append(got, api.Span{})
	is(t, l, fresh)
}

// Z2
func TestSpansKeep(t *testing.T) {
	for _, other := range [][]api.Span{nil, spans("0 1"), spans("2 10"), spans("18 19")} {
		for _, call := range []func(a, b []api.Span, size int) ([]api.Span, api.Errno){privilege.Union, privilege.Without} {
			keepsSpans(t, func(l []api.Span) []api.Span {
				got, e := call(l, other, 20)
				is(t, e, api.OK)
				return got
			})
			keepsSpans(t, func(l []api.Span) []api.Span {
				got, e := call(other, l, 20)
				is(t, e, api.OK)
				return got
			})
		}
	}
}
