package matter_test

import (
	"math/rand/v2"
	"slices"
	"testing"

	"paperchase/api"
	"paperchase/matter"
)

// P10.4
func TestHistory(t *testing.T) {
	for script, want := range map[string]string{
		"":                                 "",
		"a 5 code x want":                  "a1",
		"a 5 code y want":                  "",
		"a 5 code x want; a 3 label x hot": "a2 a1",
		"b 5 note x n; a 5 cover x 0 1":    "a1 b1",
		"a 5 label x hot; b 3 drop a 1":    "b1 a1",
		"a 5 label y hot; b 3 drop a 1":    "",
		"a 5 note x n; a 7 undo a 1":       "a1 a2", // also what does not count
		"a 9 label x hot; b 5 drop a 1; b 7 undo b 1; c 1 drop a 1":                  "c1 b1 b2 a1",
		"a 5 drop b 2; a 6 undo a 1; b 7 label y hot; b 8 label x hot; b 9 drop b 1": "a1 a2 b2",
		"a 5 note x n; a 5 note x n; b 5 note x n; b 4 note y n":                     "a1 a2 b1",
	} {
		arguments := roomy(deeds(script))
		keeps(t, func() []any {
			history, e := matter.History(arguments, "x")
			gives(t, history, e, stamps(want))
			return []any{history}
		}, arguments)
	}
	for _, key := range badKeys() {
		history, e := matter.History(deeds("a 5 note x n"), key)
		fails(t, e, api.ErrName, history)
	}
}

// P10.4: by its words, for random deeds.
func TestHistoryAny(t *testing.T) {
	r := rand.New(rand.NewPCG(10, 7))
	for range 300 {
		l := someDeeds(r, r.IntN(25))
		var about func(d api.Deed) bool
		about = func(d api.Deed) bool {
			return d.Id == "x" || slices.ContainsFunc(l, func(o api.Deed) bool { return o.Stamp == d.Of && about(o) })
		}
		var want []api.Stamp
		for _, d := range ordered(l, about) {
			want = append(want, d.Stamp)
		}
		history, e := matter.History(l, "x")
		gives(t, history, e, want)
	}
}

// P10.4
func TestRivals(t *testing.T) {
	rival := func(id, field, of string) api.Rival { return api.Rival{Id: id, Field: field, Stamps: stamps(of)} }
	for _, c := range []struct {
		script string
		within int
		want   []api.Rival
	}{
		{"", 0, nil},
		{"a 5 code x want yes; a 5 code x want no", 9, nil}, // one site
		{"a 5 code x want yes; b 5 code x want yes", 9, nil},
		{"a 5 code x want yes; b 5 code y want no", 9, nil},
		{"a 5 code x want yes; b 5 code x other no", 9, nil},
		{"a 5 code x want yes; b 5 code x want no", 0, []api.Rival{rival("x", "want", "a1 b1")}},
		{"a 5 code x want yes; b 5 code x want", 0, []api.Rival{rival("x", "want", "a1 b1")}}, // none is another value
		{"a 9 code x want yes; b 5 code x want no", 4, []api.Rival{rival("x", "want", "b1 a1")}},
		{"a 9 code x want yes; b 5 code x want no", 3, nil},
		{"a 5 code x want yes; b 9 code x want no", 3, nil},
		{"a 5 code x want yes; b 5 code x want no; b 7 code x want yes", 9, nil}, // the last ones
		{"a 5 code x want yes; b 5 code x want yes; b 4 code x want no", 9, nil},
		{"a 5 code x want yes; b 5 code x want yes; b 7 code x want no", 2, []api.Rival{rival("x", "want", "a1 b2")}},
		{"a 1 code x want yes; a 5 code x want yes; b 7 code x want no", 2, []api.Rival{rival("x", "want", "a2 b1")}},
		{"a 5 code x want yes; b 5 code x want no; b 9 undo b 1", 9, nil},
		{"a 5 code x want yes; b 5 code x want yes; b 6 code x want no; b 9 undo b 2", 9, nil},
		{"a 5 code x want yes; b 6 code x want yes; c 7 code x want no", 2, []api.Rival{rival("x", "want", "a1 b1 c1")}},
		{"a 5 code x want yes; b 6 code x want yes; c 7 code x want no", 1, nil}, // of all of them
		{"a 6 code x want yes; b 5 code x want yes; c 5 code x want no; d 5 label x yes; d 5 code x wants no", api.End, []api.Rival{rival("x", "want", "b1 c1 a1")}},
		{
			"a 5 code y want yes; b 5 code y want no; a 5 code x zone one; b 5 code x zone two; a 5 code x area one; b 5 code x area two", 0,
			[]api.Rival{rival("x", "area", "a3 b3"), rival("x", "zone", "a2 b2"), rival("y", "want", "a1 b1")},
		},
	} {
		arguments := roomy(deeds(c.script))
		keeps(t, func() []any {
			rivals, e := matter.Rivals(arguments, c.within)
			gives(t, rivals, e, c.want)
			return []any{rivals}
		}, arguments)
	}
	for _, within := range outside(0, api.End) {
		rivals, e := matter.Rivals(nil, within)
		fails(t, e, api.ErrArg, rivals)
	}
}

// rivalOf returns what sites decided of a field by the words of P10.4, and whether they are rivals.
func rivalOf(l []api.Deed, id, field string, within int) (api.Rival, bool) {
	last := map[string]api.Deed{}
	for _, d := range on(l, id, api.DeedCode) {
		if d.Field == field {
			last[d.Site] = d
		}
	}
	x := api.Rival{Id: id, Field: field}
	values := map[string]bool{}
	first, end := api.End, 0
	for _, d := range ordered(l, func(d api.Deed) bool { return last[d.Site].Stamp == d.Stamp }) {
		x.Stamps = append(x.Stamps, d.Stamp)
		values[d.Value] = true
		first, end = min(first, d.At), max(end, d.At)
	}
	return x, len(last) > 1 && len(values) > 1 && end <= first+within
}

// P10.4: by its words, for random deeds.
func TestRivalsAny(t *testing.T) {
	r := rand.New(rand.NewPCG(10, 8))
	for range 400 {
		l := someDeeds(r, r.IntN(30))
		within := r.IntN(12)
		var want []api.Rival
		for _, id := range words("x y z") {
			for _, field := range words("topic want") {
				if x, ok := rivalOf(l, id, field, within); ok {
					want = append(want, x)
				}
			}
		}
		rivals, e := matter.Rivals(l, within)
		gives(t, rivals, e, want)
	}
}
