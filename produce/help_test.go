package produce_test

import (
	"math"
	"math/rand/v2"
	"reflect"
	"slices"
	"strconv"
	"strings"
	"testing"

	"paperchase/api"
)

// is compares values; an empty and a nil list are the same (Z5), also within others.
func is(t *testing.T, got, want any) {
	t.Helper()
	if !reflect.DeepEqual(same(got), same(want)) {
		t.Errorf("got %+v, want %+v", got, want)
	}
}

// gives checks a result that comes without an error.
func gives(t *testing.T, got any, e api.Errno, want any) {
	t.Helper()
	is(t, e, api.OK)
	is(t, got, want)
}

// fails checks an error, and that all other results are zero values (Z3).
func fails(t *testing.T, e, want api.Errno, results ...any) {
	t.Helper()
	if e != want {
		t.Errorf("got error %d, want %d", e, want)
	}
	for _, r := range results {
		if v := reflect.ValueOf(r); !v.IsZero() && !(v.Kind() == reflect.Slice && v.Len() == 0) {
			t.Errorf("with error %d got %+v", e, r)
		}
	}
}

// copied returns a copy of a value in new memory, with lists made by a function.
func copied(v reflect.Value, list func(v reflect.Value) reflect.Value) reflect.Value {
	switch v.Kind() {
	case reflect.Slice:
		l := list(v)
		for i := range l.Len() {
			l.Index(i).Set(copied(l.Index(i), list))
		}
		return l
	case reflect.Struct:
		x := reflect.New(v.Type()).Elem()
		for i := range v.NumField() {
			x.Field(i).Set(copied(v.Field(i), list))
		}
		return x
	case reflect.Interface:
		if !v.IsNil() {
			return copied(v.Elem(), list)
		}
	}
	return v
}

// same returns a copy of a value in which no list is nil.
func same(x any) any {
	return copied(reflect.ValueOf(&x).Elem(), func(v reflect.Value) reflect.Value {
		l := reflect.MakeSlice(v.Type(), v.Len(), v.Len())
		reflect.Copy(l, v)
		return l
	}).Interface()
}

// roomy returns a copy of a value of which each list has room for one element more.
func roomy[T any](x T) T {
	return copied(reflect.ValueOf(x), func(v reflect.Value) reflect.Value {
		l := reflect.MakeSlice(v.Type(), v.Len(), v.Len()+1)
		reflect.Copy(l, v)
		return l
	}).Interface().(T)
}

// filled returns a copy of a value of which each list also has what is in its memory after its length.
func filled(x any) any {
	return copied(reflect.ValueOf(x), func(v reflect.Value) reflect.Value {
		l := reflect.MakeSlice(v.Type(), v.Cap(), v.Cap())
		reflect.Copy(l, v.Slice(0, v.Cap()))
		return l
	}).Interface()
}

// keeps checks that a call changes none of its arguments, which are roomy, and that its results share memory neither with them nor with each other (Z2).
func keeps(t *testing.T, call func() []any, arguments ...any) {
	t.Helper()
	before := filled(arguments)
	results := call()
	if !reflect.DeepEqual(filled(arguments), before) {
		t.Errorf("changed to %+v", arguments)
	}
	taken := map[uintptr]bool{}
	eachList(reflect.ValueOf(slices.Concat(arguments, results)), func(l reflect.Value) {
		for i := range l.Cap() {
			at := l.Slice(0, l.Cap()).Index(i).Addr().Pointer()
			if taken[at] {
				t.Errorf("shared: %+v", l)
				return
			}
			taken[at] = true
		}
	})
}

// eachList calls a function with each list of a value, but for lists of anything.
func eachList(v reflect.Value, call func(l reflect.Value)) {
	switch v.Kind() {
	case reflect.Slice:
		if v.Type().Elem().Kind() != reflect.Interface {
			call(v)
		}
		for i := range v.Len() {
			eachList(v.Index(i), call)
		}
	case reflect.Struct:
		for i := range v.NumField() {
			eachList(v.Field(i), call)
		}
	case reflect.Interface:
		eachList(v.Elem(), call)
	}
}

func words(s string) []string { return strings.Fields(s) }

// name makes names that are in order.
func name(start string, i int) string { return start + strconv.Itoa(1_000_000 + i)[1:] }

// step changes a value so that its next error is another one.
type step struct {
	e    api.Errno
	mend func()
}

// outside are numbers that are not from least to most.
func outside(least, most int) []int {
	return []int{least - 1, most + 1, -least, -most, math.MinInt, math.MaxInt}
}

// badPrefixes have not their form.
func badPrefixes() []string {
	return []string{"", "a", "Ab", "A1", "1", " A", "A ", "A B", "A-B", "A\n", "Ä", "\xff", "A\xff", "@", "[", "ABCDEFGHI"}
}

// badKeys are no keys.
func badKeys() []string {
	return []string{"", "A", "9a", "a b", "ä", strings.Repeat("k", api.MaxName+1)}
}

// badLines are not UTF-8 without bytes below 32 and 127.
func badLines() []string {
	return []string{"\t", "a\rb", "\x00", "\x1f", "\x7f", "\xff", "a\xc3", "\xed\xa0\x80"}
}

// eachBadText calls a function with strings that are no texts, or too long.
func eachBadText(t *testing.T, call func(text string) (api.Errno, []any)) {
	t.Helper()
	for _, text := range []string{strings.Repeat("\n", api.MaxBody+1), strings.Repeat("\t", api.MaxBody+1)} {
		e, results := call(text)
		fails(t, e, api.ErrLarge, results...)
	}
	for _, text := range append(badLines(), "x", "a\nb", "\t\n", "\r\n", "\xff\n", strings.Repeat("x", api.MaxBody)) {
		e, results := call(text)
		fails(t, e, api.ErrForm, results...)
	}
}

// Items and rulings.

func item(id, custodian string, at int, parent, text string) api.Item {
	return api.Item{Id: id, Custodian: custodian, Kind: api.ItemMail, At: at, Parent: parent, Text: text}
}

// items are the families of a (with b, d, c), e, f (with g) and h.
func items() []api.Item {
	return []api.Item{
		item("a", "bob", 30, "", "one two\n"),
		item("b", "ann", 5, "a", "three\n"),
		item("c", "ann", 1, "a", ""),
		item("d", "ann", 99, "b", rows(51)),
		item("e", "ann", 40, "", "four\n"),
		item("f", "bob", 20, "", rows(101)),
		item("g", "bob", 20, "f", "five\n"),
		item("h", "bob", 30, "", "six\n"),
	}
}

// rows is a text of so many lines.
func rows(many int) string { return strings.Repeat("x\n", many) }

// manyItems are families of one item each.
func manyItems(many int) []api.Item {
	var l []api.Item
	for i := range many {
		l = append(l, item(name("m", i), "ann", 0, "", "x\n"))
	}
	return l
}

// eachBadItems calls a function with items that intake.Check does not accept.
func eachBadItems(t *testing.T, call func(l []api.Item) (api.Errno, []any)) {
	t.Helper()
	e, results := call(manyItems(api.MaxItems + 1))
	fails(t, e, api.ErrLarge, results...)
	bad := func(want api.Errno, spoil func(x *api.Item)) {
		t.Helper()
		l := items()
		spoil(&l[3])
		e, results := call(l)
		fails(t, e, want, results...)
	}
	bad(api.ErrName, func(x *api.Item) { x.Id = "D" })
	bad(api.ErrKind, func(x *api.Item) { x.Kind = 0 })
	bad(api.ErrLarge, func(x *api.Item) { x.Name = strings.Repeat("n", api.MaxTitle+1) })
	bad(api.ErrForm, func(x *api.Item) { x.Text = "x" })
	bad(api.ErrArg, func(x *api.Item) { x.At = -1 })
	bad(api.ErrOrder, func(x *api.Item) { x.Id = "c" })
	bad(api.ErrNone, func(x *api.Item) { x.Parent = "x" })
	bad(api.ErrLoop, func(x *api.Item) { x.Parent = "d" })
	l := items()
	l[1].Kind = api.ItemFile // d is below it
	e, results = call(l)
	fails(t, e, api.ErrRule, results...)
}

func ruling(id string, what int) api.Ruling { return api.Ruling{Id: id, What: what} }

func show(id string, spans ...api.Span) api.Ruling {
	return api.Ruling{Id: id, What: api.RuleShow, Spans: spans}
}

// shows are rulings to show the items with some names.
func shows(ids string) []api.Ruling {
	var l []api.Ruling
	for _, id := range words(ids) {
		l = append(l, show(id))
	}
	return l
}

func setup() api.Setup {
	return api.Setup{Prefix: "AB", Digits: 4, Order: api.OrderId, Slip: "with held", Skip: "not wanted", Most: 100}
}

// Productions.

// sheet makes a Sheet with one line on each page, and the numbers after another one.
func sheet(id, top string, kind int, after int, lines ...string) api.Sheet {
	s := api.Sheet{Id: id, Top: top, Kind: kind, From: after + 1, To: after + len(lines), Version: 1}
	for _, line := range lines {
		s.Pages = append(s.Pages, []string{line})
	}
	return s
}

// production has the families of a (with b, c, d), e, and f (with g), with the numbers 7 to 15.
func production() api.Production {
	return api.Production{No: 1, Prefix: "AB", Digits: 4, Sheets: []api.Sheet{
		sheet("a", "a", api.SheetShown, 6, "one two", "Two!"),
		sheet("b", "a", api.SheetHeld, 8, "with held"),
		sheet("c", "a", api.SheetLeft, 9, "not wanted"),
		sheet("d", "a", api.SheetShown, 10, "three"),
		sheet("e", "e", api.SheetShown, 11, "", "four x-4", "five"),
		sheet("f", "f", api.SheetHeld, 14, "with held"),
		sheet("g", "f", api.SheetBack, 15, "recalled"),
	}}
}

// single is a production of one item with so many pages without lines.
func single(no int, prefix string, digits int, id string, from, to int) api.Production {
	s := api.Sheet{Id: id, Top: id, Kind: api.SheetShown, From: from, To: to, Version: 1, Pages: make([][]string, to-from+1)}
	return api.Production{No: no, Prefix: prefix, Digits: digits, Sheets: []api.Sheet{s}}
}

// manyProductions have one page each.
func manyProductions(many int) []api.Production {
	var l []api.Production
	for i := range many {
		l = append(l, single(i+1, "AB", 4, name("p", i), i+1, i+1))
	}
	return l
}

// matter is productions with numbers of two prefixes, of which those of AB have two widths.
func matter() []api.Production {
	return []api.Production{
		production(), // AB0007 to AB0016
		single(2, "C", 4, "m", 1, 3),
		single(3, "AB", 6, "n", 2, 4),
		single(4, "AB", 4, "o", 20, 21),
		single(5, "AB", 4, "p", 17, 17),
	}
}

// eachBadProduction calls a function with productions that Check does not accept.
func eachBadProduction(t *testing.T, call func(p api.Production) (api.Errno, []any)) {
	t.Helper()
	bad := func(want api.Errno, spoil func(p *api.Production)) {
		t.Helper()
		p := production()
		spoil(&p)
		e, results := call(p)
		fails(t, e, want, results...)
	}
	for _, no := range outside(1, api.MaxProductions) {
		bad(api.ErrArg, func(p *api.Production) { p.No = no })
	}
	for _, prefix := range badPrefixes() {
		bad(api.ErrForm, func(p *api.Production) { p.Prefix = prefix })
	}
	for _, digits := range outside(4, 9) {
		bad(api.ErrArg, func(p *api.Production) { p.Digits = digits })
	}
	bad(api.ErrNone, func(p *api.Production) { p.Sheets = nil })
	bad(api.ErrLarge, func(p *api.Production) { p.Sheets = make([]api.Sheet, api.MaxItems+1) })
	for _, id := range badKeys() {
		bad(api.ErrName, func(p *api.Production) { p.Sheets[1].Id = id })
		bad(api.ErrName, func(p *api.Production) { p.Sheets[1].Top = id })
	}
	bad(api.ErrTwice, func(p *api.Production) { p.Sheets[3].Id = "b" })
	bad(api.ErrTwice, func(p *api.Production) { p.Sheets[6].Id = "a" })
	bad(api.ErrTwice, func(p *api.Production) { p.Sheets[4].Id, p.Sheets[4].Top = "a", "a" }) // a begins again
	bad(api.ErrOrder, func(p *api.Production) { p.Sheets[0].Id = "x" })                       // not its top
	bad(api.ErrOrder, func(p *api.Production) { p.Sheets[4].Id = "x" })
	bad(api.ErrOrder, func(p *api.Production) { p.Sheets[6].Top = "a" }) // a family that goes on later
	for _, kind := range outside(api.SheetShown, api.SheetBack) {
		bad(api.ErrKind, func(p *api.Production) { p.Sheets[4].Kind = kind })
	}
	for _, version := range outside(1, 1_000) {
		bad(api.ErrArg, func(p *api.Production) { p.Sheets[4].Version = version })
	}
	eachBadNumbers(bad)
	eachBadPages(bad)
}

// eachBadNumbers spoils From and To of a Sheet.
func eachBadNumbers(bad func(want api.Errno, spoil func(p *api.Production))) {
	for _, n := range []int{12 - 1, 12 + 1, 14 + 1, 0, -12, math.MinInt, math.MaxInt} {
		bad(api.ErrArg, func(p *api.Production) { p.Sheets[4].From = n })
	}
	for _, n := range []int{11, 0, -14, 10_000, math.MinInt, math.MaxInt} {
		bad(api.ErrArg, func(p *api.Production) { p.Sheets[4].To = n })
	}
	for _, n := range []int{0, -1, math.MinInt} {
		bad(api.ErrArg, func(p *api.Production) { p.Sheets[0].From = n })
	}
	bad(api.ErrArg, func(p *api.Production) { p.Sheets[4].From, p.Sheets[4].To = math.MinInt, math.MaxInt })
	bad(api.ErrArg, func(p *api.Production) { p.Sheets[1].From, p.Sheets[1].To = 10, 10 })
	bad(api.ErrArg, func(p *api.Production) { *p = single(1, "AB", 4, "a", 9_999, 10_000) })
	bad(api.ErrArg, func(p *api.Production) { *p = single(1, "AB", 9, "a", 999_999_999, 1_000_000_000) })
	bad(api.ErrForm, func(p *api.Production) { p.Sheets[6].To = 9_999 }) // too few pages
	bad(api.ErrForm, func(p *api.Production) { p.Sheets[6].Pages = make([][]string, 2) })
}

// eachBadPages spoils the pages of a Sheet.
func eachBadPages(bad func(want api.Errno, spoil func(p *api.Production))) {
	page := func(lines ...string) {
		bad(api.ErrForm, func(p *api.Production) { p.Sheets[4].Pages[2] = lines })
	}
	page(make([]string, api.PageLong+1)...)
	page("x", strings.Repeat("x", api.PageWide+1))
	page(strings.Repeat("é", api.PageWide/2) + "x")
	page("a\n")
	for _, line := range badLines() {
		page("x", line)
	}
	bad(api.ErrForm, func(p *api.Production) { p.Sheets[4].Pages = p.Sheets[4].Pages[1:] })
	bad(api.ErrForm, func(p *api.Production) { p.Sheets[4].Pages = nil })
	for _, i := range []int{1, 2} { // held, left
		for _, lines := range [][]string{nil, {"x", "y"}} {
			bad(api.ErrForm, func(p *api.Production) { p.Sheets[i].Pages[0] = lines })
		}
	}
	for _, kind := range []int{api.SheetHeld, api.SheetLeft} {
		bad(api.ErrForm, func(p *api.Production) { p.Sheets[4].Kind = kind })
	}
}

// eachBadList calls a function with productions that CheckAll does not accept.
func eachBadList(t *testing.T, call func(l []api.Production) (api.Errno, []any)) {
	t.Helper()
	eachBadProduction(t, func(p api.Production) (api.Errno, []any) { return call([]api.Production{p}) })
	bad := func(want api.Errno, spoil func(l []api.Production)) {
		t.Helper()
		l := matter()
		spoil(l)
		e, results := call(l)
		fails(t, e, want, results...)
	}
	bad(api.ErrNone, func(l []api.Production) { l[4].Sheets = nil })
	for _, no := range []int{1, 2, 4, 200} {
		bad(api.ErrOrder, func(l []api.Production) { l[2].No = no })
	}
	bad(api.ErrOrder, func(l []api.Production) { l[0].No = 2 })
	for _, id := range words("a g m o") {
		bad(api.ErrTwice, func(l []api.Production) { l[4].Sheets[0].Id, l[4].Sheets[0].Top = id, id })
	}
	for _, n := range []int{2, 4, 7, 13, 16, 20, 21} {
		bad(api.ErrConflict, func(l []api.Production) { l[4] = single(5, "AB", 4, "p", n, n) })
		bad(api.ErrConflict, func(l []api.Production) { l[4] = single(5, "AB", 9, "p", n, n) })
	}
	bad(api.ErrConflict, func(l []api.Production) { l[4] = single(5, "AB", 4, "p", 1, 30) })
	e, results := call(manyProductions(api.MaxProductions + 1))
	fails(t, e, api.ErrLarge, results...)
}

// Random things, of which much is equal.

func pick[T any](r *rand.Rand, l ...T) T { return l[r.IntN(len(l))] }

// randomText is made of words, blanks, signs and letters of several bytes.
func randomText(r *rand.Rand, most int) string {
	var b strings.Builder
	for range r.IntN(most + 1) {
		b.WriteString(pick(r, "a", "word", "é", "\U0001f600", " ", " ", "  ", "-", "\n", strings.Repeat(" ", r.IntN(100)), strings.Repeat("ab", r.IntN(60)), strings.Repeat("€", r.IntN(60))))
	}
	if b.Len() > 0 {
		b.WriteString("\n")
	}
	return b.String()
}

// randomItems have ids that begin with a string, and parents among those before.
func randomItems(r *rand.Rand, start string) []api.Item {
	var l []api.Item
	for i := range r.IntN(9) {
		parent := ""
		if i > 0 && r.IntN(2) == 0 {
			parent = l[r.IntN(i)].Id
		}
		if len(l) > 4 {
			parent = "" // not too deep
		}
		l = append(l, item(name(start, i), pick(r, "ann", "bob", "cid"), r.IntN(4), parent, randomText(r, 60)))
	}
	return l
}

// randomRulings are right for items.
func randomRulings(r *rand.Rand, l []api.Item) []api.Ruling {
	var rulings []api.Ruling
	for _, x := range l {
		what := r.IntN(5)
		if what == 4 {
			continue
		}
		if what == 0 {
			what = api.RuleShow
		}
		y := ruling(x.Id, what)
		for at := r.IntN(9); what == api.RuleShow && at < len(x.Text); at += 2 + r.IntN(40) {
			to := min(len(x.Text), at+1+r.IntN(20))
			y.Spans = append(y.Spans, api.Span{From: at, To: to})
			at = to
		}
		rulings = append(rulings, y)
	}
	return rulings
}
