package matter_test

import (
	"cmp"
	"fmt"
	"hash/fnv"
	"math"
	"math/rand/v2"
	"reflect"
	"slices"
	"strconv"
	"strings"
	"testing"

	"paperchase/api"
	"paperchase/intake"
	"paperchase/matter"
)

// is compares values; an empty and a nil list are the same (Z5), also within others.
func is(t *testing.T, got, want any) {
	t.Helper()
	if !reflect.DeepEqual(same(got), same(want)) {
		t.Errorf("got %+v, want %+v", got, want)
	}
}

// gives checks a result that comes without an error.
func gives(t *testing.T, got any, e api.Errno, want any) {
	t.Helper()
	is(t, e, api.OK)
	is(t, got, want)
}

// fails checks an error, and that all other results are zero values (Z3).
func fails(t *testing.T, e, want api.Errno, results ...any) {
	t.Helper()
	if e != want {
		t.Errorf("got error %d, want %d", e, want)
	}
	for _, r := range results {
		if v := reflect.ValueOf(r); !v.IsZero() && !(v.Kind() == reflect.Slice && v.Len() == 0) {
			t.Errorf("with error %d got %+v", e, r)
		}
	}
}

// copied returns a copy of a value in new memory, with lists made by a function.
func copied(v reflect.Value, list func(v reflect.Value) reflect.Value) reflect.Value {
	switch v.Kind() {
	case reflect.Slice:
		l := list(v)
		for i := range l.Len() {
			l.Index(i).Set(copied(l.Index(i), list))
		}
		return l
	case reflect.Struct:
		x := reflect.New(v.Type()).Elem()
		for i := range v.NumField() {
			x.Field(i).Set(copied(v.Field(i), list))
		}
		return x
	case reflect.Interface:
		if !v.IsNil() {
			return copied(v.Elem(), list)
		}
	}
	return v
}

// same returns a copy of a value in which no list is nil.
func same(x any) any {
	return copied(reflect.ValueOf(&x).Elem(), func(v reflect.Value) reflect.Value {
		l := reflect.MakeSlice(v.Type(), v.Len(), v.Len())
		reflect.Copy(l, v)
		return l
	}).Interface()
}

// roomy returns a copy of a value of which each list has room for one element more.
func roomy[T any](x T) T {
	return copied(reflect.ValueOf(x), func(v reflect.Value) reflect.Value {
		l := reflect.MakeSlice(v.Type(), v.Len(), v.Len()+1)
		reflect.Copy(l, v)
		return l
	}).Interface().(T)
}

// filled returns a copy of a value of which each list also has what is in its memory after its length.
func filled(x any) any {
	return copied(reflect.ValueOf(x), func(v reflect.Value) reflect.Value {
		l := reflect.MakeSlice(v.Type(), v.Cap(), v.Cap())
		reflect.Copy(l, v.Slice(0, v.Cap()))
		return l
	}).Interface()
}

// keeps checks that a call changes none of its arguments, which are roomy, and that its results share memory neither with them nor with each other (Z2).
func keeps(t *testing.T, call func() []any, arguments ...any) {
	t.Helper()
	before := filled(arguments)
	results := call()
	if !reflect.DeepEqual(filled(arguments), before) {
		t.Errorf("changed to %+v", arguments)
	}
	taken := map[uintptr]bool{}
	eachList(reflect.ValueOf(slices.Concat(arguments, results)), func(l reflect.Value) {
		for i := range l.Cap() {
			at := l.Slice(0, l.Cap()).Index(i).Addr().Pointer()
			if taken[at] {
				t.Errorf("shared: %+v", l)
				return
			}
			taken[at] = true
		}
	})
}

// eachList calls a function with each list of a value, but for lists of anything.
func eachList(v reflect.Value, call func(l reflect.Value)) {
	switch v.Kind() {
	case reflect.Slice:
		if v.Type().Elem().Kind() != reflect.Interface {
			call(v)
		}
		for i := range v.Len() {
			eachList(v.Index(i), call)
		}
	case reflect.Struct:
		for i := range v.NumField() {
			eachList(v.Field(i), call)
		}
	case reflect.Interface:
		eachList(v.Elem(), call)
	}
}

func words(s string) []string { return strings.Fields(s) }

// name makes names that are in order.
func name(start string, i int) string { return start + strconv.Itoa(1_000_000 + i)[1:] }

// step changes a value so that its next error is another one.
type step struct {
	e    api.Errno
	mend func()
}

// outside are numbers that are not from least to most.
func outside(least, most int) []int {
	return []int{least - 1, most + 1, math.MinInt, math.MaxInt}
}

// badKeys are no keys.
func badKeys() []string {
	return []string{"", "-", "A", "9a", "a b", "a\n", "ä", strings.Repeat("k", api.MaxName+1)}
}

// badPlain are not plain.
func badPlain() []string {
	return []string{" ", "a ", " a", "a  b", "a\n", "a\tb", "\x00", "\x7f", "\xff", "a\xc3"}
}

// Deeds.

func stamp(site string, no int) api.Stamp { return api.Stamp{Site: site, No: no} }

func span(from, to int) api.Span { return api.Span{From: from, To: to} }

// stamps reads stamps like a1 and b12.
func stamps(s string) []api.Stamp {
	var l []api.Stamp
	for _, word := range words(s) {
		l = append(l, stamp(word[:1], number(word[1:])))
	}
	return l
}

func number(s string) int {
	n, err := strconv.Atoi(s)
	if err != nil {
		panic(err)
	}
	return n
}

func orDash(s string) string { return cmp.Or(s, "-") }

// sealed returns deeds with right Sums.
func sealed(l []api.Deed) []api.Deed {
	l = slices.Clone(l)
	last := map[string]string{}
	for i := range l {
		d := &l[i]
		h := fnv.New64a()
		fmt.Fprintf(h, "%s %s %d %d %d %s %s %s ", last[d.Site], d.Site, d.No, d.At, d.Kind, orDash(d.Id), orDash(d.Field), intake.Quote(d.Value))
		fmt.Fprintf(h, "%d %d %s %d", d.Span.From, d.Span.To, orDash(d.Of.Site), d.Of.No)
		d.Sum = fmt.Sprintf("%016x", h.Sum64())
		last[d.Site] = d.Sum
	}
	return l
}

// arranged returns deeds with the Nos that they have at their sites, by Site and No, with right Sums.
func arranged(l []api.Deed) []api.Deed {
	l = slices.Clone(l)
	slices.SortStableFunc(l, func(a, b api.Deed) int { return strings.Compare(a.Site, b.Site) })
	many := map[string]int{}
	for i := range l {
		many[l[i].Site]++
		l[i].No = many[l[i].Site]
	}
	return sealed(l)
}

// deeds reads deeds like: a 5 code x want yes; b 6 label x hot; a 7 cover x 0 3; a 8 note x some words; a 9 drop b 1; a 9 undo a 1. Sites can be in any order.
func deeds(script string) []api.Deed {
	var l []api.Deed
	for part := range strings.SplitSeq(script, ";") {
		w := words(part)
		if len(w) == 0 {
			continue
		}
		d := api.Deed{Stamp: stamp(w[0], 0), At: number(w[1])}
		switch w[2] {
		case "code":
			d.Kind, d.Id, d.Field, d.Value = api.DeedCode, w[3], w[4], strings.Join(w[5:], " ")
		case "label":
			d.Kind, d.Id, d.Value = api.DeedLabel, w[3], w[4]
		case "cover":
			d.Kind, d.Id, d.Span = api.DeedCover, w[3], span(number(w[4]), number(w[5]))
		case "note":
			d.Kind, d.Id, d.Value = api.DeedNote, w[3], strings.Join(w[4:], " ")
		case "drop":
			d.Kind, d.Of = api.DeedDrop, stamp(w[3], number(w[4]))
		case "undo":
			d.Kind, d.Of = api.DeedUndo, stamp(w[3], number(w[4]))
		default:
			panic(part)
		}
		l = append(l, d)
	}
	return arranged(l)
}

// manyDeeds are of two sites.
func manyDeeds(many int) []api.Deed {
	var l []api.Deed
	for i := range many {
		l = append(l, api.Deed{Stamp: stamp([]string{"a", "b"}[i%2], 0), At: i, Kind: api.DeedNote, Id: name("m", i), Value: "n"})
	}
	return arranged(l)
}

// pick returns one of a list.
func pick[T any](r *rand.Rand, l ...T) T { return l[r.IntN(len(l))] }

// someDeeds makes right deeds of a few sites on a few items; what is taken back can be of later deeds, and several times.
func someDeeds(r *rand.Rand, many int) []api.Deed {
	var l []api.Deed
	for range many {
		d := api.Deed{Stamp: stamp(pick(r, "a", "b", "c"), 0), At: r.IntN(12), Id: pick(r, "x", "y", "z")}
		switch d.Kind = 1 + r.IntN(6); d.Kind {
		case api.DeedCode:
			d.Field, d.Value = pick(r, "topic", "want"), pick(r, "", "maybe", "no", "yes", "yes")
		case api.DeedLabel:
			d.Value = pick(r, "hot", "secret", "old")
		case api.DeedCover:
			d.Span.From = r.IntN(12)
			d.Span.To = d.Span.From + 1 + r.IntN(4)
		case api.DeedNote:
			d.Value = pick(r, "look", "look again")
		case api.DeedDrop, api.DeedUndo:
			d.Id = ""
		}
		l = append(l, d)
	}
	l = arranged(l)
	for i := range l {
		d := &l[i]
		var of []api.Stamp
		for _, o := range l {
			mark := o.Kind == api.DeedLabel || o.Kind == api.DeedCover
			if d.Kind == api.DeedDrop && mark || d.Kind == api.DeedUndo && !mark && o.Kind != api.DeedUndo && o.Site == d.Site && o.No < d.No {
				of = append(of, o.Stamp)
			}
		}
		if d.Kind != api.DeedDrop && d.Kind != api.DeedUndo {
			continue
		}
		if len(of) == 0 {
			*d = api.Deed{Stamp: d.Stamp, At: d.At, Kind: api.DeedNote, Id: "x", Value: "nothing"}
			continue
		}
		d.Of = pick(r, of...)
	}
	return sealed(l)
}

// counts says by the words of P10.4 whether a deed counts.
func counts(l []api.Deed, d api.Deed) bool {
	return !slices.ContainsFunc(l, func(o api.Deed) bool {
		return o.Of == d.Stamp && (o.Kind == api.DeedUndo || counts(l, o))
	})
}

// after says whether a deed is later than another one in the order of P10.4.
func after(a, b api.Deed) bool {
	if a.At != b.At {
		return a.At > b.At
	}
	if a.Site != b.Site {
		return a.Site > b.Site
	}
	return a.No > b.No
}

// ordered returns the deeds for which a function is true, in the order of P10.4.
func ordered(l []api.Deed, wanted func(d api.Deed) bool) []api.Deed {
	var some []api.Deed
	for _, d := range l {
		if wanted(d) {
			at := slices.IndexFunc(some, func(o api.Deed) bool { return after(o, d) })
			if at < 0 {
				at = len(some)
			}
			some = slices.Insert(some, at, d)
		}
	}
	return some
}

// on returns the deeds of a kind on an item that count, in the order of P10.4.
func on(l []api.Deed, id string, kind int) []api.Deed {
	return ordered(l, func(d api.Deed) bool { return d.Id == id && d.Kind == kind && counts(l, d) })
}

// valueOf is Value by the words of P10.4.
func valueOf(l []api.Deed, id, field string) string {
	value := ""
	for _, d := range on(l, id, api.DeedCode) {
		if d.Field == field {
			value = d.Value
		}
	}
	return value
}

// has checks that a list has some deeds, all with the stamps as written.
func has(t *testing.T, l []api.Deed, want string) {
	t.Helper()
	var got []api.Stamp
	for _, d := range l {
		got = append(got, d.Stamp)
	}
	is(t, got, stamps(want))
}

// right checks that deeds are right.
func right(t *testing.T, l []api.Deed) {
	t.Helper()
	at, e := matter.CheckDeeds(l)
	gives(t, at, e, 0)
}

// Items.

func item(id, parent, text string) api.Item {
	return api.Item{Id: id, Custodian: "ann", Kind: api.ItemMail, Parent: parent, Text: text}
}

// items are the families of x (with y) and z.
func items() []api.Item {
	return []api.Item{item("x", "", "one two\n"), item("y", "x", ""), item("z", "", "four\n")}
}

// manyItems are families of one item each.
func manyItems(many int) []api.Item {
	var l []api.Item
	for i := range many {
		l = append(l, item(name("m", i), "", ""))
	}
	return l
}

// eachBadItems calls a function with items that intake.Check does not accept.
func eachBadItems(t *testing.T, call func(l []api.Item) (api.Errno, []any)) {
	t.Helper()
	e, results := call(manyItems(api.MaxItems + 1))
	fails(t, e, api.ErrLarge, results...)
	bad := func(want api.Errno, spoil func(x *api.Item)) {
		t.Helper()
		l := items()
		spoil(&l[1])
		e, results := call(l)
		fails(t, e, want, results...)
	}
	bad(api.ErrName, func(x *api.Item) { x.Id = "Y" })
	bad(api.ErrKind, func(x *api.Item) { x.Kind = 0 })
	bad(api.ErrForm, func(x *api.Item) { x.Text = "x" })
	bad(api.ErrArg, func(x *api.Item) { x.At = -1 })
	bad(api.ErrOrder, func(x *api.Item) { x.Id, x.Parent = "x", "" })
	bad(api.ErrNone, func(x *api.Item) { x.Parent = "a" })
	bad(api.ErrLoop, func(x *api.Item) { x.Parent = "y" })
}

// policy wants items with want=yes, which need a topic.
func policy() api.Policy {
	return api.Policy{Field: "want", Yes: "yes", No: "no", Secret: "secret", Must: words("size topic")}
}
