package matter_test

import (
	"math/rand/v2"
	"slices"
	"testing"

	"paperchase/api"
	"paperchase/matter"
)

// P10.4
func TestValue(t *testing.T) {
	for script, want := range map[string]string{
		"":                           "",
		"a 5 code x want yes":        "yes",
		"a 5 code x want":            "",
		"a 5 code y want yes":        "",
		"a 5 code x other yes":       "",
		"a 5 code x want yes, or no": "yes, or no",
		"a 5 code x want yes; b 5 code x want no":                                                 "no",  // the greater Site
		"a 6 code x want yes; b 5 code x want no":                                                 "yes", // the greater At
		"a 5 code x want yes; a 5 code x want no":                                                 "no",  // the greater No
		"a 5 code x want yes; a 4 code x want no":                                                 "yes",
		"a 5 code x want yes; b 9 code x want":                                                    "",
		"a 5 code x want yes; b 5 code x want no; b 1 undo b 1":                                   "yes",
		"a 5 code x want yes; b 5 code x want no; b 1 undo b 1; b 1 undo b 1":                     "yes",
		"a 5 code x want yes; a 6 code x want; a 7 code x want no; a 8 undo a 2; a 8 undo a 3":    "yes",
		"a 5 code x want yes; a 6 undo a 1":                                                       "",
		"a 5 label x want; a 5 note x want":                                                       "",
		"a 5 code x want yes; a 9 code x want no; a 9 code x wants maybe; a 10 code y want maybe": "no",
	} {
		l := deeds(script)
		value, e := matter.Value(l, "x", "want")
		gives(t, value, e, want)
	}
	// The example of the chapter.
	l, e := matter.Merge(deeds("a 5 code x want yes"), deeds("b 5 code x want no"))
	is(t, e, api.OK)
	value, e := matter.Value(l, "x", "want")
	gives(t, value, e, "no")
	rivals, e := matter.Rivals(l, 0)
	gives(t, rivals, e, []api.Rival{{Id: "x", Field: "want", Stamps: stamps("a1 b1")}})
	for _, key := range badKeys() {
		value, e := matter.Value(l, key, "want")
		fails(t, e, api.ErrName, value)
		value, e = matter.Value(l, "x", key)
		fails(t, e, api.ErrName, value)
	}
}

// P10.4
func TestFields(t *testing.T) {
	l := deeds("a 5 code x want yes; a 5 code x area b c; a 6 code x zone one; b 5 code x want no; b 7 code x zone; c 9 code y want yes; c 9 code x size big; c 9 undo c 2; c 9 code x z; c 1 label x want")
	arguments := roomy(l)
	keeps(t, func() []any {
		fields, e := matter.Fields(arguments, "x")
		gives(t, fields, e, []api.Coded{{Field: "area", Value: "b c", Stamp: stamp("a", 2)}, {Field: "want", Value: "no", Stamp: stamp("b", 1)}})
		return []any{fields}
	}, arguments)
	fields, e := matter.Fields(l, "z")
	gives(t, fields, e, []api.Coded{})
	for _, key := range badKeys() {
		fields, e := matter.Fields(l, key)
		fails(t, e, api.ErrName, fields)
	}
}

// P10.4
func TestLabels(t *testing.T) {
	for script, want := range map[string]string{
		"":                                 "",
		"a 5 label x hot":                  "hot",
		"a 5 label y hot":                  "",
		"a 5 label x hot; b 5 label x hot": "hot",
		"a 9 label x hot; a 5 label x old; b 1 label x cold; b 1 note x new": "cold hot old",
		"a 5 label x hot; b 5 drop a 1":                                      "",
		"a 5 label x hot; b 1 drop a 1; b 1 undo b 1":                        "hot",
		"a 5 label x hot; b 1 drop a 1; b 1 undo b 1; c 9 drop a 1":          "",
		"a 5 label x hot; b 5 drop a 1; c 5 drop a 1; c 6 undo c 1":          "",
		"a 5 label x hot; b 5 label x hot; b 9 drop a 1":                     "hot", // the other one counts
		"a 9 drop a 2; a 5 label x hot":                                      "",
	} {
		arguments := roomy(deeds(script))
		keeps(t, func() []any {
			labels, e := matter.Labels(arguments, "x")
			gives(t, labels, e, words(want))
			return []any{labels}
		}, arguments)
	}
	for _, key := range badKeys() {
		labels, e := matter.Labels(deeds("a 5 label x hot"), key)
		fails(t, e, api.ErrName, labels)
	}
}

// P10.4, P7.5
func TestSpans(t *testing.T) {
	for script, want := range map[string][]api.Span{
		"":                                                   {},
		"a 5 cover x 2 5":                                    {span(2, 5)},
		"a 5 cover y 2 5":                                    {},
		"a 5 cover x 7 9; b 1 cover x 2 5":                   {span(2, 5), span(7, 9)},
		"a 5 cover x 5 9; b 1 cover x 2 5":                   {span(2, 9)}, // they touch
		"a 5 cover x 4 9; b 1 cover x 2 5":                   {span(2, 9)},
		"a 5 cover x 6 9; b 1 cover x 2 5":                   {span(2, 5), span(6, 9)},
		"a 5 cover x 0 20000; b 1 cover x 2 5":               {span(0, 20_000)},
		"a 5 cover x 2 5; b 1 cover x 0 20000; b 7 drop b 1": {span(2, 5)},
		"a 5 cover x 2 5; b 1 cover x 0 20000; b 7 drop b 1; b 7 undo b 2":     {span(0, 20_000)},
		"a 5 cover x 1 2; a 5 cover x 3 4; a 5 cover x 2 3; a 5 cover x 2 3":   {span(1, 4)},
		"a 5 cover x 1 9; a 5 cover x 3 4; a 5 cover x 10 11; a 5 cover x 1 3": {span(1, 9), span(10, 11)},
	} {
		arguments := roomy(deeds(script))
		keeps(t, func() []any {
			spans, e := matter.Spans(arguments, "x")
			gives(t, spans, e, want)
			return []any{spans}
		}, arguments)
	}
	var l []api.Deed
	var want []api.Span
	for i := range api.MaxDeeds { // more than there can be in a ruling
		l = append(l, api.Deed{Stamp: stamp("a", 0), Kind: api.DeedCover, Id: "x", Span: span(2*i, 2*i+1)})
		want = append(want, span(2*i, 2*i+1))
	}
	spans, e := matter.Spans(arranged(l), "x")
	gives(t, spans, e, want)
	for _, key := range badKeys() {
		spans, e := matter.Spans(nil, key)
		fails(t, e, api.ErrName, spans)
	}
}

// P10.4
func TestNotes(t *testing.T) {
	for script, want := range map[string][]string{
		"":                                         {},
		"a 5 note x look at this":                  {"look at this"},
		"a 5 note y look":                          {},
		"a 5 note x b; b 4 note x a":               {"a", "b"},
		"a 5 note x b; b 5 note x a":               {"b", "a"},
		"a 5 note x b; a 5 note x a":               {"b", "a"},
		"a 5 note x b; a 4 note x a":               {"a", "b"},
		"a 5 note x b; b 5 note x b":               {"b", "b"}, // each of them
		"a 5 note x b; b 5 note x c; a 1 undo a 1": {"c"},
		"a 5 code x b c; a 5 label x d":            {},
	} {
		arguments := roomy(deeds(script))
		keeps(t, func() []any {
			notes, e := matter.Notes(arguments, "x")
			gives(t, notes, e, want)
			return []any{notes}
		}, arguments)
	}
	for _, key := range badKeys() {
		notes, e := matter.Notes(nil, key)
		fails(t, e, api.ErrName, notes)
	}
}

// P10.4: by its words, for random deeds.
func TestStateAny(t *testing.T) {
	r := rand.New(rand.NewPCG(10, 5))
	for range 400 {
		l := someDeeds(r, r.IntN(25))
		for _, id := range words("x y z none") {
			var fields []api.Coded
			for _, field := range words("topic want") {
				value, e := matter.Value(l, id, field)
				gives(t, value, e, valueOf(l, id, field))
				if value == "" {
					continue
				}
				codes := slices.DeleteFunc(on(l, id, api.DeedCode), func(d api.Deed) bool { return d.Field != field })
				fields = append(fields, api.Coded{Field: field, Value: value, Stamp: codes[len(codes)-1].Stamp})
			}
			f, e := matter.Fields(l, id)
			gives(t, f, e, fields)
			var labels, notes []string
			for _, d := range on(l, id, api.DeedLabel) {
				if !slices.Contains(labels, d.Value) {
					labels = append(labels, d.Value)
				}
			}
			slices.Sort(labels)
			w, e := matter.Labels(l, id)
			gives(t, w, e, labels)
			for _, d := range on(l, id, api.DeedNote) {
				notes = append(notes, d.Value)
			}
			w, e = matter.Notes(l, id)
			gives(t, w, e, notes)
			s, e := matter.Spans(l, id)
			gives(t, s, e, covered(on(l, id, api.DeedCover)))
		}
	}
}

// covered returns the right spans of all bytes that deeds cover.
func covered(l []api.Deed) []api.Span {
	var spans []api.Span
	for at := range api.MaxBody {
		if !slices.ContainsFunc(l, func(d api.Deed) bool { return d.Span.From <= at && at < d.Span.To }) {
			continue
		}
		if last := len(spans) - 1; last >= 0 && spans[last].To == at {
			spans[last].To++
		} else {
			spans = append(spans, span(at, at+1))
		}
	}
	return spans
}
