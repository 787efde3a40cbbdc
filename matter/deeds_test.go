package matter_test

import (
	"math"
	"math/rand/v2"
	"slices"
	"strings"
	"testing"

	"paperchase/api"
	"paperchase/intake"
	"paperchase/matter"
)

// P10.1
func TestSum(t *testing.T) {
	l, e := matter.Add(nil, "a", 5, api.DeedCode, "x", "want", "yes, é", api.Span{})
	is(t, e, api.OK)
	first := intake.Digest(` a 1 5 1 x want "yes,\x20\xc3\xa9" 0 0 - 0`)
	is(t, l, []api.Deed{{Stamp: stamp("a", 1), At: 5, Kind: api.DeedCode, Id: "x", Field: "want", Value: "yes, é", Sum: first}})
	l, e = matter.Add(l, "a", 3, api.DeedCover, "x", "", "", span(2, 20))
	is(t, e, api.OK)
	second := intake.Digest(first + ` a 2 3 4 x - "" 2 20 - 0`)
	is(t, l[1], api.Deed{Stamp: stamp("a", 2), At: 3, Kind: api.DeedCover, Id: "x", Span: span(2, 20), Sum: second})
	l, e = matter.Undo(l, "b", 7, stamp("a", 2))
	is(t, e, api.OK)
	third := intake.Digest(` b 1 7 3 - - "" 0 0 a 2`)
	is(t, l[2], api.Deed{Stamp: stamp("b", 1), At: 7, Kind: api.DeedDrop, Of: stamp("a", 2), Sum: third})
	l, e = matter.Undo(l, "b", 8, stamp("b", 1))
	is(t, e, api.OK)
	is(t, l[3], api.Deed{Stamp: stamp("b", 2), At: 8, Kind: api.DeedUndo, Of: stamp("b", 1), Sum: intake.Digest(third + ` b 2 8 6 - - "" 0 0 b 1`)})
	is(t, l, sealed(l))
	// Each change is seen.
	for i, spoil := range []func(d *api.Deed){
		func(d *api.Deed) { d.At++ },
		func(d *api.Deed) { d.Id = "y" },
		func(d *api.Deed) { d.Field = "other" },
		func(d *api.Deed) { d.Value = "" },
		func(d *api.Deed) { d.Sum = strings.ToUpper(d.Sum) },
		func(d *api.Deed) { d.Sum = "" },
		func(d *api.Deed) { d.Sum = l[1].Sum },
		func(d *api.Deed) { *d = l[2]; d.Stamp = stamp("a", 1) },
	} {
		bad := slices.Clone(l)
		spoil(&bad[0])
		at, e := matter.CheckDeeds(bad)
		if e != api.ErrSum || at != 0 {
			t.Error(i, at, e)
		}
		bad[0] = sealed(bad[:1])[0] // then it is not the one from which the next one goes on
		at, e = matter.CheckDeeds(bad)
		if i != 4 && i != 5 && i != 6 && (e != api.ErrSum || at != 1) {
			t.Error(i, at, e)
		}
	}
}

// P10.1, P10.2
func TestCheckDeeds(t *testing.T) {
	long := strings.Repeat("k", api.MaxName)
	for _, l := range [][]api.Deed{
		nil,
		deeds("a 0 code x want"),
		deeds("a 0 code x want yes; a 5759999 note x n; a 3 label x hot; b 3 cover x 0 1; b 3 cover y 19999 20000; b 3 cover y 0 20000"),
		deeds("a 5 label x hot; b 4 drop a 1; c 3 drop a 1; c 2 drop a 1; b 9 undo b 1; b 9 undo b 1; b 9 drop a 1"),
		deeds("a 5 drop a 2; a 5 label x hot; a 6 drop b 1; b 1 cover x 1 2"), // a drop can be before what it drops
		deeds("a 5 code x want yes; a 5 note x n; a 5 undo a 1; a 5 undo a 2"),
		deeds(long + " 1 label " + long + " " + long + "; a-_9 1 code x " + long + " " + strings.Repeat("é", 30) + "; b 1 note y " + strings.Repeat("n", 200)),
		manyDeeds(api.MaxDeeds),
	} {
		right(t, l)
	}
	at, e := matter.CheckDeeds(make([]api.Deed, api.MaxDeeds+1))
	is(t, []any{at, e}, []any{0, api.ErrLarge})
	r := rand.New(rand.NewPCG(10, 2))
	for range 300 {
		right(t, someDeeds(r, r.IntN(20)))
	}
}

// P10.2: of several errors the first one of the list, deed by deed.
func TestCheckDeedsOrder(t *testing.T) {
	l := make([]api.Deed, api.MaxDeeds+1)
	copy(l, deeds("b 5 label x hot; b 6 drop b 1"))
	l[1].Of = stamp("b", 9) // asked for when all deeds are right by themselves
	l = sealed(l[:2])
	l = append(l, make([]api.Deed, api.MaxDeeds-1)...)
	d := &l[2]
	*d = api.Deed{Stamp: stamp("B", 9), At: -1, Kind: 7, Id: "X", Field: "F", Value: " ", Span: span(1, 1), Of: stamp("", 3), Sum: "x"}
	where := 0
	for _, s := range []step{
		{api.ErrLarge, func() {}},
		{api.ErrName, func() { l, where = l[:3], 2 }},
		{api.ErrOrder, func() { d.Stamp = stamp("a", 9) }},
		{api.ErrOrder, func() { d.Stamp = stamp("b", 2) }},
		{api.ErrOrder, func() { d.Stamp = stamp("b", 1) }},
		{api.ErrArg, func() { d.Stamp = stamp("b", 4) }},
		{api.ErrArg, func() { d.Stamp = stamp("c", 2) }},
		{api.ErrArg, func() { d.Stamp = stamp("b", 3) }}, // At
		{api.ErrKind, func() { d.At = 0 }},
		{api.ErrForm, func() { d.Kind = api.DeedCode }},
		{api.ErrForm, func() { d.Of = stamp("", 0) }},
		{api.ErrName, func() { d.Span = span(0, 0) }},
		{api.ErrName, func() { d.Id = "x" }},
		{api.ErrForm, func() { d.Field = "f" }},
		{api.ErrSum, func() { d.Value = "v" }},
		{api.ErrNone, func() { l, where = sealed(l), 1 }},
		{api.ErrRule, func() { l[1].Of = stamp("b", 3); l = sealed(l) }},
		{api.ErrRule, func() { l[1].Of, l[1].Kind = stamp("b", 1), api.DeedUndo; l = sealed(l) }},
		{api.OK, func() { l[1].Kind = api.DeedDrop; l, where = sealed(l), 0 }},
	} {
		s.mend()
		at, e := matter.CheckDeeds(l)
		is(t, []any{at, e}, []any{where, s.e})
	}
}

// P10.1: one right deed of each kind, for a list of a label, a code and a drop of the site a before.
func oneOfEach() []api.Deed {
	l := deeds("a 1 label x hot; a 1 code x want yes; a 2 drop a 1; a 3 code x want yes; a 3 label x hot; a 3 drop a 1; a 3 cover x 1 2; a 3 note x n; a 3 undo a 3")
	return l[3:]
}

// P10.1, P10.2: fields that a kind uses have their form, and the others are zero.
func TestCheckDeedFields(t *testing.T) {
	before := deeds("a 1 label x hot; a 1 code x want yes; a 2 drop a 1")
	bad := func(d api.Deed, want api.Errno, spoil func(d *api.Deed)) {
		t.Helper()
		d.No = 4
		spoil(&d)
		at, e := matter.CheckDeeds(sealed(append(slices.Clone(before), d)))
		is(t, []any{d.Kind, at, e}, []any{d.Kind, 3, want})
	}
	for _, d := range oneOfEach() {
		l := append(slices.Clone(before), d)
		l[3].No = 4
		right(t, sealed(l))
		for _, site := range badKeys() {
			bad(d, api.ErrName, func(d *api.Deed) { d.Site = site })
		}
		for _, no := range []int{5, 2_001, math.MaxInt} {
			bad(d, api.ErrArg, func(d *api.Deed) { d.No = no })
		}
		for _, no := range []int{0, 2, -1, math.MinInt, math.MaxInt} {
			bad(d, api.ErrArg, func(d *api.Deed) { d.Site, d.No = "b", no })
		}
		for _, at := range outside(0, api.End-1) {
			bad(d, api.ErrArg, func(d *api.Deed) { d.At = at })
		}
		for _, kind := range outside(1, 6) {
			bad(d, api.ErrKind, func(d *api.Deed) { d.Kind = kind })
		}
		uses := map[int]string{api.DeedCode: "id field value", api.DeedLabel: "id value", api.DeedDrop: "of", api.DeedCover: "id span", api.DeedNote: "id value", api.DeedUndo: "of"}[d.Kind]
		for field, spoil := range map[string]func(d *api.Deed){
			"id":    func(d *api.Deed) { d.Id = "y" },
			"field": func(d *api.Deed) { d.Field = "f" },
			"value": func(d *api.Deed) { d.Value = "v" },
			"span":  func(d *api.Deed) { d.Span = span(0, 1) },
			"of":    func(d *api.Deed) { d.Of = stamp("a", 1) },
		} {
			if !slices.Contains(words(uses), field) {
				bad(d, api.ErrForm, spoil)
			}
		}
		for _, key := range badKeys() {
			if d.Id != "" {
				bad(d, api.ErrName, func(d *api.Deed) { d.Id = key })
			}
			if d.Kind == api.DeedCode {
				bad(d, api.ErrName, func(d *api.Deed) { d.Field = key })
			}
			if d.Kind == api.DeedLabel {
				bad(d, api.ErrForm, func(d *api.Deed) { d.Value = key })
			}
		}
		for _, value := range badPlain() {
			if d.Value != "" {
				bad(d, api.ErrForm, func(d *api.Deed) { d.Value = value })
			}
		}
		for _, s := range []api.Span{{}, span(0, 0), span(2, 1), span(-1, 1), span(0, api.MaxBody+1), span(math.MinInt, 5), span(1, math.MaxInt)} {
			if d.Kind == api.DeedCover {
				bad(d, api.ErrForm, func(d *api.Deed) { d.Span = s })
			}
		}
		for _, of := range []api.Stamp{{}, stamp("a", 0), stamp("a", 5), stamp("", 1), stamp("b", 1), stamp("A", 1), stamp("a", -1), stamp("a", math.MaxInt), stamp("a", math.MinInt)} {
			if d.Of != (api.Stamp{}) {
				bad(d, api.ErrNone, func(d *api.Deed) { d.Of = of })
			}
		}
	}
	code, note := oneOfEach()[0], oneOfEach()[4]
	bad(code, api.ErrForm, func(d *api.Deed) { d.Value = strings.Repeat("v", 61) })
	bad(code, api.ErrForm, func(d *api.Deed) { d.Value = strings.Repeat("é", 30) + "v" })
	bad(note, api.ErrForm, func(d *api.Deed) { d.Value = "" })
	bad(note, api.ErrForm, func(d *api.Deed) { d.Value = strings.Repeat("n", 201) })
	bad(code, api.ErrForm, func(d *api.Deed) { d.Of = stamp("", 1) })
	bad(code, api.ErrForm, func(d *api.Deed) { d.Span = span(0, -1) })
}

// P10.1, P10.2: what drops and what undoes which kinds.
func TestCheckDeedsOf(t *testing.T) {
	before := "a 1 code x want yes; a 1 label x hot; a 1 drop a 2; a 1 cover x 1 2; a 1 note x n; a 1 undo a 1;"
	for of, droppable := range []bool{false, true, false, true, false, false} {
		undoable := of == 0 || of == 2 || of == 4
		no := string(rune('1' + of))
		for kind, is := range map[string]bool{"a 2 drop a ": droppable, "b 2 drop a ": droppable, "a 2 undo a ": undoable, "b 2 undo a ": false} {
			at, e := matter.CheckDeeds(deeds(before + kind + no))
			if is && (e != api.OK || at != 0) || !is && (e != api.ErrRule || at != 6) {
				t.Error(kind, no, at, e)
			}
		}
	}
	for script, want := range map[string]api.Errno{
		"a 1 undo a 2; a 2 code x want yes": api.ErrRule, // later
		"a 1 undo a 1":                      api.ErrRule,
		"a 1 drop a 1":                      api.ErrRule,
		"a 1 undo b 1; b 1 note x n":        api.ErrRule,
		"a 1 undo a 3; a 1 label x hot":     api.ErrNone,
		"a 1 drop b 2; b 1 label x hot":     api.ErrNone,
		"a 1 drop b 1; b 1 label x hot":     api.OK,
	} {
		at, e := matter.CheckDeeds(deeds(script))
		is(t, []any{script, at, e}, []any{script, 0, want})
	}
	// Of two such errors that of the first deed.
	at, e := matter.CheckDeeds(deeds("a 1 note x n; a 1 drop a 1; a 1 drop a 9"))
	is(t, []any{at, e}, []any{1, api.ErrRule})
	at, e = matter.CheckDeeds(deeds("a 1 note x n; a 1 drop a 9; a 1 drop a 1"))
	is(t, []any{at, e}, []any{1, api.ErrNone})
}

// P10.2
func TestAdd(t *testing.T) {
	l := deeds("a 5 code x want yes; c 5 label x hot; c 5 drop c 1")
	for _, c := range []struct {
		site string
		want string
	}{
		{"a", "a1 a2 c1 c2"},
		{"b", "a1 b1 c1 c2"},
		{"c", "a1 c1 c2 c3"},
		{"d", "a1 c1 c2 d1"},
	} {
		for _, d := range oneOfEach() {
			if d.Kind == api.DeedDrop || d.Kind == api.DeedUndo {
				continue
			}
			var got []api.Deed
			arguments := roomy(l)
			keeps(t, func() []any {
				more, e := matter.Add(arguments, c.site, 4, d.Kind, d.Id, d.Field, d.Value, d.Span)
				is(t, e, api.OK)
				got = more
				return []any{more}
			}, arguments)
			has(t, got, c.want)
			right(t, got)
			d.Site, d.At = c.site, 4
			is(t, got, arranged(append(slices.Clone(l), d)))
		}
	}
}

// P10.2
func TestAddErrors(t *testing.T) {
	l := manyDeeds(api.MaxDeeds)
	site, at, kind, id, field, value, s := "A", -1, api.DeedDrop, "X", "F", " ", span(1, 1)
	for _, c := range []step{
		{api.ErrName, func() {}},
		{api.ErrFull, func() { site = "a" }},
		{api.ErrArg, func() { l = manyDeeds(api.MaxDeeds - 1) }},
		{api.ErrKind, func() { at = 0 }},
		{api.ErrKind, func() { kind = api.DeedUndo }},
		{api.ErrKind, func() { kind = 0 }},
		{api.ErrForm, func() { kind = api.DeedCode }},
		{api.ErrName, func() { s = api.Span{} }},
		{api.ErrName, func() { id = "x" }},
		{api.ErrForm, func() { field = "f" }},
	} {
		c.mend()
		more, e := matter.Add(l, site, at, kind, id, field, value, s)
		fails(t, e, c.e, more)
	}
	more, e := matter.Add(l, site, at, kind, id, field, "v", s)
	is(t, e, api.OK)
	right(t, more)
	is(t, len(more), api.MaxDeeds)
	for _, site := range badKeys() {
		more, e := matter.Add(nil, site, 0, api.DeedCode, "x", "f", "", api.Span{})
		fails(t, e, api.ErrName, more)
	}
	for _, at := range outside(0, api.End-1) {
		more, e := matter.Add(nil, "a", at, api.DeedCode, "x", "f", "", api.Span{})
		fails(t, e, api.ErrArg, more)
	}
	for _, kind := range append(outside(1, 6), api.DeedDrop, api.DeedUndo) {
		more, e := matter.Add(nil, "a", 0, kind, "", "", "", api.Span{})
		fails(t, e, api.ErrKind, more)
	}
	for _, c := range []struct {
		kind             int
		id, field, value string
		span             api.Span
		want             api.Errno
	}{
		{api.DeedLabel, "X", "f", "", api.Span{}, api.ErrForm},
		{api.DeedLabel, "X", "", "", api.Span{}, api.ErrName},
		{api.DeedLabel, "x", "", "a b", api.Span{}, api.ErrForm},
		{api.DeedCover, "X", "", "v", span(0, 1), api.ErrForm},
		{api.DeedCover, "", "", "", span(1, 1), api.ErrName},
		{api.DeedCover, "x", "", "", span(1, 1), api.ErrForm},
		{api.DeedCover, "x", "", "", span(0, api.MaxBody+1), api.ErrForm},
		{api.DeedNote, "", "", "n", span(0, 1), api.ErrForm},
		{api.DeedNote, "", "", "", api.Span{}, api.ErrName},
		{api.DeedNote, "x", "", "", api.Span{}, api.ErrForm},
		{api.DeedCode, "x", "", "\n", api.Span{}, api.ErrName},
		{api.DeedCode, "x", "f", strings.Repeat("v", 61), api.Span{}, api.ErrForm},
	} {
		more, e := matter.Add(nil, "a", 0, c.kind, c.id, c.field, c.value, c.span)
		fails(t, e, c.want, more)
	}
}

// P10.2
func TestUndo(t *testing.T) {
	l := deeds("a 5 code x want yes; a 5 label x hot; a 5 note x n; a 5 cover x 1 2; b 5 drop a 2; b 5 note x n")
	for _, c := range []struct {
		site string
		of   api.Stamp
		kind int
		e    api.Errno
	}{
		{"a", stamp("a", 1), api.DeedUndo, api.OK},
		{"a", stamp("a", 3), api.DeedUndo, api.OK},
		{"a", stamp("a", 4), api.DeedDrop, api.OK},
		{"b", stamp("a", 4), api.DeedDrop, api.OK},
		{"c", stamp("a", 4), api.DeedDrop, api.OK},
		{"b", stamp("b", 1), api.DeedUndo, api.OK},
		{"b", stamp("b", 2), api.DeedUndo, api.OK},
		{"b", stamp("a", 1), 0, api.ErrRule},
		{"c", stamp("a", 3), 0, api.ErrRule},
		{"a", stamp("b", 1), 0, api.ErrRule},
		{"a", stamp("a", 2), 0, api.ErrState},
		{"b", stamp("a", 2), 0, api.ErrState},
		{"a", stamp("a", 0), 0, api.ErrNone},
		{"a", stamp("a", 5), 0, api.ErrNone},
		{"a", stamp("c", 1), 0, api.ErrNone},
		{"a", stamp("", 0), 0, api.ErrNone},
		{"a", stamp("A", 1), 0, api.ErrNone},
		{"a", stamp("a", math.MinInt), 0, api.ErrNone},
		{"a", stamp("a", math.MaxInt), 0, api.ErrNone},
	} {
		arguments := roomy(l)
		keeps(t, func() []any {
			more, e := matter.Undo(arguments, c.site, 3, c.of)
			if e != api.OK || c.e != api.OK {
				fails(t, e, c.e, more)
				return nil
			}
			is(t, more, arranged(append(slices.Clone(l), api.Deed{Stamp: stamp(c.site, 0), At: 3, Kind: c.kind, Of: c.of})))
			right(t, more)
			return []any{more}
		}, arguments)
	}
}

// P10.2, P10.4: what is taken back can be taken back again only after the drop was undone.
func TestUndoAgain(t *testing.T) {
	l := deeds("a 5 label x hot; a 6 code x want yes")
	for _, c := range []struct {
		site string
		of   api.Stamp
		e    api.Errno
	}{
		{"b", stamp("a", 1), api.OK}, // b1
		{"c", stamp("a", 1), api.ErrState},
		{"a", stamp("b", 1), api.ErrRule},
		{"b", stamp("b", 1), api.OK}, // b2
		{"b", stamp("b", 1), api.ErrState},
		{"b", stamp("b", 2), api.ErrRule},
		{"a", stamp("a", 1), api.OK}, // a3
		{"b", stamp("a", 1), api.ErrState},
		{"a", stamp("a", 3), api.OK}, // a4
		{"c", stamp("a", 1), api.OK}, // c1
		{"a", stamp("a", 2), api.OK}, // a5
		{"a", stamp("a", 2), api.ErrState},
		{"b", stamp("a", 2), api.ErrRule}, // of another site, before it is undone already
		{"a", stamp("a", 5), api.ErrRule},
	} {
		more, e := matter.Undo(l, c.site, 7, c.of)
		is(t, []any{c.of, e}, []any{c.of, c.e})
		if e == api.OK {
			l = more
		}
	}
	has(t, l, "a1 a2 a3 a4 a5 b1 b2 c1")
	right(t, l)
}

// P10.2
func TestUndoErrors(t *testing.T) {
	l := manyDeeds(api.MaxDeeds)
	site, at, of := "A", -1, stamp("b", 1_500)
	for _, s := range []step{
		{api.ErrName, func() {}},
		{api.ErrFull, func() { site = "a" }},
		{api.ErrArg, func() { l = deeds("a 5 note x n; a 5 undo a 1; b 5 note x n; b 5 undo b 1") }},
		{api.ErrNone, func() { at = 0 }},
		{api.ErrRule, func() { of = stamp("a", 2) }}, // a DeedUndo
		{api.ErrRule, func() { of = stamp("b", 1) }}, // of another site
		{api.ErrState, func() { of = stamp("a", 1) }},
	} {
		s.mend()
		more, e := matter.Undo(l, site, at, of)
		fails(t, e, s.e, more)
	}
	for _, site := range badKeys() {
		more, e := matter.Undo(deeds("a 5 note x n"), site, 0, stamp("a", 1))
		fails(t, e, api.ErrName, more)
	}
	for _, at := range outside(0, api.End-1) {
		more, e := matter.Undo(deeds("a 5 note x n"), "a", at, stamp("a", 1))
		fails(t, e, api.ErrArg, more)
	}
}

// P10.2: all functions with deeds ask for them first.
func TestDeedsFirst(t *testing.T) {
	large := make([]api.Deed, api.MaxDeeds+1)
	sum := deeds("a 5 code x want yes")
	sum[0].Value = "no"
	none := deeds("a 5 note x n; a 5 drop b 1")
	badItems, badPolicy := []api.Item{{}}, api.Policy{}
	for _, c := range []struct {
		l    []api.Deed
		want api.Errno
	}{{large, api.ErrLarge}, {sum, api.ErrSum}, {none, api.ErrNone}} {
		list := func(got any, e api.Errno) {
			t.Helper()
			fails(t, e, c.want, got)
		}
		a, e := matter.Add(c.l, "A", -1, 0, "", "", "", api.Span{})
		list(a, e)
		a, e = matter.Undo(c.l, "A", -1, api.Stamp{})
		list(a, e)
		many, last, e := matter.Tip(c.l, "A")
		fails(t, e, c.want, many, last)
		v, e := matter.Vector(c.l)
		list(v, e)
		a, e = matter.Since(c.l, []api.Stamp{{}})
		list(a, e)
		a, e = matter.Merge(c.l, large)
		list(a, e)
		value, e := matter.Value(c.l, "", "")
		list(value, e)
		f, e := matter.Fields(c.l, "")
		list(f, e)
		s, e := matter.Spans(c.l, "")
		list(s, e)
		w, e := matter.Labels(c.l, "")
		list(w, e)
		w, e = matter.Notes(c.l, "")
		list(w, e)
		rivals, e := matter.Rivals(c.l, -1)
		list(rivals, e)
		v, e = matter.History(c.l, "")
		list(v, e)
		a, e = matter.AsOf(c.l, -1)
		list(a, e)
		rulings, e := matter.Rulings(badItems, c.l, badPolicy)
		list(rulings, e)
		lacks, e := matter.Open(badItems, c.l, badPolicy)
		list(lacks, e)
		tally, e := matter.Tally(badItems, c.l, "")
		list(tally, e)
		text, e := matter.PrintDeeds(c.l)
		list(text, e)
	}
}
