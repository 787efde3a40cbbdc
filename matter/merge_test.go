package matter_test

import (
	"math"
	"math/rand/v2"
	"slices"
	"testing"

	"paperchase/api"
	"paperchase/matter"
)

// P10.2
func TestTip(t *testing.T) {
	l := deeds("a 5 note x n; c 9 note x n; c 1 label x hot")
	for site, want := range map[string]struct {
		many int
		sum  string
	}{"a": {1, l[0].Sum}, "c": {2, l[2].Sum}, "b": {}, "d": {}, "aa": {}} {
		many, sum, e := matter.Tip(l, site)
		gives(t, []any{many, sum}, e, []any{want.many, want.sum})
	}
	many, sum, e := matter.Tip(nil, "a")
	gives(t, []any{many, sum}, e, []any{0, ""})
	all := manyDeeds(api.MaxDeeds)
	many, sum, e = matter.Tip(all, "b")
	gives(t, []any{many, sum}, e, []any{1_000, all[1_999].Sum})
	for _, site := range badKeys() {
		many, sum, e := matter.Tip(l, site)
		fails(t, e, api.ErrName, many, sum)
	}
}

// P10.2
func TestVector(t *testing.T) {
	for script, want := range map[string]string{
		"":                           "",
		"a 5 note x n":               "a1",
		"b 5 note x n; b 4 note x n": "b2",
		"a 9 note x n; c 1 note x n; a 1 note x n; b 1 note x n; c 0 note x n; c 1 drop d 1; d 1 label x hot": "a2 b1 c3 d1",
	} {
		arguments := roomy(deeds(script))
		keeps(t, func() []any {
			v, e := matter.Vector(arguments)
			gives(t, v, e, stamps(want))
			return []any{v}
		}, arguments)
	}
}

// P10.2
func TestSince(t *testing.T) {
	l := deeds("a 1 note x n; a 1 note x n; a 1 note x n; b 1 note x n; d 1 note x n; d 1 note x n")
	for seen, want := range map[string]string{
		"":         "a1 a2 a3 b1 d1 d2",
		"a1":       "a2 a3 b1 d1 d2",
		"a3":       "b1 d1 d2",
		"b1":       "a1 a2 a3 d1 d2",
		"a2 d1":    "a3 b1 d2",
		"a3 b1 d2": "",
	} {
		arguments, given := roomy(l), roomy(stamps(seen))
		keeps(t, func() []any {
			some, e := matter.Since(arguments, given)
			is(t, e, api.OK)
			has(t, some, want)
			for _, d := range some {
				is(t, slices.Contains(l, d), true)
			}
			return []any{some}
		}, arguments, given)
	}
	for seen, want := range map[string]api.Errno{
		"A1":       api.ErrName,
		"a1 A1":    api.ErrName,
		"a4 A1":    api.ErrNone,
		"d1 b1":    api.ErrOrder,
		"a1 a1":    api.ErrOrder,
		"a1 a2":    api.ErrOrder, // each site once
		"a2 a1":    api.ErrOrder,
		"b1 a9 A1": api.ErrOrder,
		"a0":       api.ErrNone,
		"a4":       api.ErrNone,
		"c1":       api.ErrNone,
		"e1":       api.ErrNone,
		"a-1":      api.ErrNone,
	} {
		some, e := matter.Since(l, stamps(seen))
		fails(t, e, want, some)
	}
	for _, no := range []int{math.MinInt, math.MaxInt} {
		some, e := matter.Since(l, []api.Stamp{stamp("a", no)})
		fails(t, e, api.ErrNone, some)
	}
	for _, site := range badKeys() {
		some, e := matter.Since(l, []api.Stamp{stamp(site, 1)})
		fails(t, e, api.ErrName, some)
	}
}

// P10.3
func TestMerge(t *testing.T) {
	all := deeds("a 5 label x hot; a 6 code x want yes; b 4 note x n; b 7 drop a 1; c 8 note x n; c 7 undo c 1")
	first := func(many ...int) []api.Deed { // so many of each site
		var l []api.Deed
		for _, d := range all {
			if d.No <= many[d.Site[0]-'a'] {
				l = append(l, d)
			}
		}
		return l
	}
	back := slices.Clone(all)
	slices.Reverse(back)
	for _, c := range []struct {
		a, b []api.Deed
		want string
	}{
		{nil, nil, ""},
		{all, nil, "a1 a2 b1 b2 c1 c2"},
		{nil, all, "a1 a2 b1 b2 c1 c2"},
		{all, all, "a1 a2 b1 b2 c1 c2"},
		{nil, back, "a1 a2 b1 b2 c1 c2"}, // in whatever order
		{first(1, 2, 0), back, "a1 a2 b1 b2 c1 c2"},
		{nil, slices.Concat(all, back, all[2:4]), "a1 a2 b1 b2 c1 c2"}, // and however often
		{first(1, 0, 1), first(2, 0, 0), "a1 a2 c1"},
		{first(2, 0, 1), first(1, 2, 0), "a1 a2 b1 b2 c1"},
		{first(1, 0, 0), all[3:4], ""}, // the one before is missing
		{first(1, 1, 0), all[3:4], "a1 b1 b2"},
		{first(0, 0, 1), all[1:4], ""},
	} {
		a, b := roomy(c.a), roomy(c.b)
		keeps(t, func() []any {
			l, e := matter.Merge(a, b)
			if c.want == "" && len(c.a)+len(c.b) > 0 {
				fails(t, e, api.ErrArg, l)
				return nil
			}
			is(t, e, api.OK)
			has(t, l, c.want)
			right(t, l)
			return []any{l}
		}, a, b)
	}
}

// P10.3
func TestMergeErrors(t *testing.T) {
	a := deeds("a 5 label x hot; a 6 note x n")
	other := deeds("a 5 label x cold; b 1 note x n")
	with := func(l []api.Deed, d api.Deed) []api.Deed { return append(slices.Clone(l), d) }
	lone := deeds("c 1 drop b 1")[0]
	for _, c := range []struct {
		a, b []api.Deed
		want api.Errno
	}{
		{a[1:], make([]api.Deed, api.MaxDeeds+1), api.ErrArg},
		{a, make([]api.Deed, api.MaxDeeds+1), api.ErrLarge},
		{a, other, api.ErrConflict},
		{other, a, api.ErrConflict},
		{nil, slices.Concat(a, other), api.ErrConflict},
		{a, with(other, api.Deed{}), api.ErrConflict}, // before what is wrong in the result
		{nil, []api.Deed{{At: 1}, {At: 2}}, api.ErrConflict},
		{a, []api.Deed{{}}, api.ErrName},
		{a, []api.Deed{{}, {}}, api.ErrName}, // each once
		{a, []api.Deed{{Stamp: stamp("a", 0)}}, api.ErrArg},
		{a, []api.Deed{{Stamp: stamp("a", 4)}}, api.ErrArg},
		{a, []api.Deed{{Stamp: stamp("a", math.MinInt)}}, api.ErrArg},
		{a, []api.Deed{{Stamp: stamp("b", math.MaxInt)}}, api.ErrArg},
		{a, []api.Deed{{Stamp: stamp("b", 1), At: -1}}, api.ErrArg},
		{a, []api.Deed{{Stamp: stamp("b", 1)}}, api.ErrKind},
		{a, []api.Deed{{Stamp: stamp("b", 1), Kind: api.DeedNote, Id: "x", Value: "n"}}, api.ErrSum},
		{a, []api.Deed{lone}, api.ErrNone},
		{a, deeds("b 1 note x n; c 1 drop b 1"), api.ErrRule},
	} {
		l, e := matter.Merge(c.a, c.b)
		fails(t, e, c.want, l)
	}
	// Of a deed in both only one is counted.
	most := manyDeeds(api.MaxDeeds)
	l, e := matter.Merge(most, most[1:])
	gives(t, l, e, most)
	l, e = matter.Merge(nil, most)
	gives(t, l, e, most)
	l, e = matter.Merge(most, deeds("c 1 note x n"))
	fails(t, e, api.ErrLarge, l)
	l, e = matter.Merge(most[:1_000], slices.Concat(most[1_000:], deeds("c 1 note x n")))
	fails(t, e, api.ErrLarge, l)
	l, e = matter.Merge(deeds("c 1 note x n"), most)
	fails(t, e, api.ErrLarge, l)
	l, e = matter.Merge(most[:1_000], most[1_000:]) // b begins with the first No of its site
	gives(t, l, e, most)
}

// part cuts right deeds at random moments of their sites.
func part(r *rand.Rand, l []api.Deed) []api.Deed {
	many := map[string]int{"a": r.IntN(6), "b": r.IntN(6), "c": r.IntN(6)}
	some := slices.DeleteFunc(slices.Clone(l), func(d api.Deed) bool { return d.No > many[d.Site] })
	for {
		at := slices.IndexFunc(some, func(d api.Deed) bool {
			return d.Of.No > 0 && !slices.ContainsFunc(some, func(o api.Deed) bool { return o.Stamp == d.Of })
		})
		if at < 0 {
			return some
		}
		d := some[at]
		some = slices.DeleteFunc(some, func(o api.Deed) bool { return o.Site == d.Site && o.No >= d.No })
	}
}

// P10.3: what follows.
func TestMergeAnyOrder(t *testing.T) {
	r := rand.New(rand.NewPCG(10, 3))
	merge := func(a, b []api.Deed) []api.Deed {
		t.Helper()
		l, e := matter.Merge(a, b)
		is(t, e, api.OK)
		return l
	}
	for range 500 {
		all := someDeeds(r, r.IntN(25))
		a, b, c := part(r, all), part(r, all), part(r, all)
		right(t, a)
		ab := merge(a, b)
		is(t, merge(b, a), ab)
		is(t, merge(merge(c, a), b), merge(c, ab))
		for _, d := range all {
			is(t, slices.Contains(ab, d), slices.Contains(a, d) || slices.Contains(b, d))
		}
		v, e := matter.Vector(a)
		is(t, e, api.OK)
		rest, e := matter.Since(all, v)
		is(t, e, api.OK)
		is(t, merge(a, rest), all)
		is(t, len(a)+len(rest), len(all))
	}
}

// P10.3: in whatever portions deeds come, the same comes out.
func TestMergePortions(t *testing.T) {
	r := rand.New(rand.NewPCG(10, 6))
	for range 100 {
		all := someDeeds(r, 20)
		l := part(r, all)
		for len(l) < len(all) {
			more, e := matter.Merge(l, part(r, all))
			is(t, e, api.OK)
			if r.IntN(4) == 0 {
				more, e = matter.Merge(more, all)
				is(t, e, api.OK)
			}
			l = more
		}
		is(t, l, all)
	}
}

// P10.4
func TestAsOf(t *testing.T) {
	l := deeds("a 5 label x hot; a 9 note x n; a 3 note x n; b 4 note x n; b 4 drop a 1; b 4 label x hot; c 3 note x n; c 4 drop b 3; c 4 note x n")
	for at, want := range map[int]string{
		0:           "",
		2:           "",
		3:           "c1",
		4:           "b1 c1", // without a1, b2 drops what is missing, so b3 is missing, and c2
		5:           "a1 b1 b2 b3 c1 c2 c3",
		8:           "a1 b1 b2 b3 c1 c2 c3", // a3 comes after a2
		9:           "a1 a2 a3 b1 b2 b3 c1 c2 c3",
		api.End - 1: "a1 a2 a3 b1 b2 b3 c1 c2 c3",
	} {
		arguments := roomy(l)
		keeps(t, func() []any {
			some, e := matter.AsOf(arguments, at)
			is(t, e, api.OK)
			has(t, some, want)
			right(t, some)
			return []any{some}
		}, arguments)
	}
	// What is missing can be found against the order of sites, and at the same site.
	l = deeds("a 1 drop b 2; b 1 drop c 2; b 1 label x hot; c 1 drop d 1; c 1 label x hot; d 9 label x hot; e 1 label x hot")
	some, e := matter.AsOf(l, 8)
	is(t, e, api.OK)
	has(t, some, "e1")
	some, e = matter.AsOf(deeds("a 1 note x n; a 1 drop a 4; a 1 note x n; a 2 label x hot"), 1)
	is(t, e, api.OK)
	has(t, some, "a1")
	some, e = matter.AsOf(nil, 0)
	gives(t, some, e, []api.Deed{})
	for _, at := range outside(0, api.End-1) {
		some, e := matter.AsOf(l, at)
		fails(t, e, api.ErrArg, some)
	}
}

// asOf is AsOf by the words of P10.4.
func asOf(l []api.Deed, at int) []api.Deed {
	gone := map[api.Stamp]bool{}
	cut := func(from api.Deed) {
		for _, d := range l {
			if d.Site == from.Site && d.No >= from.No {
				gone[d.Stamp] = true
			}
		}
	}
	for _, d := range l {
		if d.At > at {
			cut(d)
		}
	}
	for before := -1; len(gone) > before; {
		before = len(gone)
		for _, d := range l {
			if gone[d.Of] {
				cut(d)
			}
		}
	}
	return slices.DeleteFunc(slices.Clone(l), func(d api.Deed) bool { return gone[d.Stamp] })
}

// P10.4: what follows, and what counts as of then.
func TestAsOfAny(t *testing.T) {
	r := rand.New(rand.NewPCG(10, 4))
	for range 500 {
		l := someDeeds(r, r.IntN(25))
		for at := range 13 {
			some, e := matter.AsOf(l, at)
			gives(t, some, e, asOf(l, at))
			right(t, some)
			again, e := matter.AsOf(some, at)
			gives(t, again, e, some)
		}
	}
}
