package hold_test

import (
	"math/rand/v2"
	"reflect"
	"slices"
	"strconv"
	"strings"
	"testing"

	"paperchase/api"
	"paperchase/intake"
	"paperchase/query"
)

// is compares values; an empty and a nil list are the same (Z5).
func is(t *testing.T, got, want any) {
	t.Helper()
	if !reflect.DeepEqual(got, want) && !(isEmptyList(got) && isEmptyList(want)) {
		t.Errorf("got %+v, want %+v", got, want)
	}
}

func isEmptyList(x any) bool {
	v := reflect.ValueOf(x)
	return v.Kind() == reflect.Slice && v.Len() == 0
}

// gives checks a result that comes without an error.
func gives(t *testing.T, got any, e api.Errno, want any) {
	t.Helper()
	is(t, e, api.OK)
	is(t, got, want)
}

// fails checks an error, and that all other results are zero values (Z3).
func fails(t *testing.T, e, want api.Errno, results ...any) {
	t.Helper()
	if e != want {
		t.Errorf("got error %d, want %d", e, want)
	}
	for _, r := range results {
		if !isEmptyList(r) && !reflect.ValueOf(r).IsZero() {
			t.Errorf("with error %d got %+v", e, r)
		}
	}
}

func words(s string) []string { return strings.Fields(s) }

// name makes keys that are in order.
func name(start string, i int) string { return start + strconv.Itoa(1_000_000 + i)[1:] }

// names makes many keys that are in order.
func names(many int) []string {
	var l []string
	for i := range many {
		l = append(l, name("p", i))
	}
	return l
}

// step changes a value so that its next error is another one.
type step struct {
	e    api.Errno
	mend func()
}

// Holds.

// whole is a hold of everything from a moment on.
func whole(key string, at int) api.Hold {
	return api.Hold{Key: key, At: at, Released: -1, Window: api.Window{To: api.End}}
}

func of(h api.Hold, custodians string) api.Hold {
	h.Custodians = words(custodians)
	return h
}

func released(h api.Hold, at int) api.Hold {
	h.Released = at
	return h
}

func searching(h api.Hold, search string) api.Hold {
	h.Query = search
	return h
}

func within(h api.Hold, from, to int) api.Hold {
	h.Window = api.Window{From: from, To: to}
	return h
}

func kinds(h api.Hold, l ...int) api.Hold {
	h.Kinds = l
	return h
}

func manyHolds(many int) []api.Hold {
	var l []api.Hold
	for i := range many {
		l = append(l, whole(name("h", i), 0))
	}
	return l
}

// holds is some of each sort.
func holds() []api.Hold {
	return []api.Hold{
		of(whole("case", 50), "ann bob"),
		released(searching(kinds(whole("deal", 0), api.ItemMail, api.ItemNote), "deal* or owner:cid"), 900),
		within(searching(whole("rest", 10), ""), 100, 200),
	}
}

// badHolds are lists with the errors of Check.
func badHolds() map[string]struct {
	e api.Errno
	l []api.Hold
} {
	type bad = struct {
		e api.Errno
		l []api.Hold
	}
	one := func(e api.Errno, h api.Hold) bad { return bad{e, []api.Hold{h}} }
	h := whole("case", 5)
	return map[string]bad{
		"holds":    {api.ErrLarge, manyHolds(api.MaxHolds + 1)},
		"key":      one(api.ErrName, whole("Case", 5)),
		"order":    {api.ErrOrder, []api.Hold{whole("b", 5), whole("a", 5)}},
		"twice":    {api.ErrOrder, []api.Hold{h, h}},
		"early":    one(api.ErrArg, whole("case", -1)),
		"late":     one(api.ErrArg, whole("case", api.End)),
		"released": one(api.ErrArg, released(h, 4)),
		"people":   {api.ErrLarge, []api.Hold{{Key: "case", At: 5, Released: -1, Custodians: names(api.MaxPeople + 1)}}},
		"person":   one(api.ErrName, of(h, "ann B")),
		"persons":  one(api.ErrOrder, of(h, "bob ann")),
		"kind":     one(api.ErrKind, kinds(h, 0)),
		"kinds":    one(api.ErrOrder, kinds(h, 2, 1)),
		"window":   one(api.ErrArg, within(h, 7, 6)),
		"search":   one(api.ErrSyntax, searching(h, "and")),
	}
}

// eachBadHolds calls a function with lists that Check does not accept.
func eachBadHolds(t *testing.T, call func(l []api.Hold) (api.Errno, []any)) {
	t.Helper()
	for what, c := range badHolds() {
		e, results := call(c.l)
		if e != c.e {
			t.Errorf("%s:", what)
		}
		fails(t, e, c.e, results...)
	}
}

// eachBadHold calls a function with single holds that Check does not accept.
func eachBadHold(t *testing.T, call func(h api.Hold) (api.Errno, []any)) {
	t.Helper()
	for what, c := range badHolds() {
		if len(c.l) != 1 {
			continue
		}
		e, results := call(c.l[0])
		if e != c.e {
			t.Errorf("%s:", what)
		}
		fails(t, e, c.e, results...)
	}
}

// keepsHolds calls a function with holds whose lists have room, and checks that they are as before (Z2).
func keepsHolds(t *testing.T, call func(l []api.Hold)) {
	t.Helper()
	fresh := func() []api.Hold {
		l := append(holds(), whole("zzz", 0))
		l[0].Custodians = words("ann bob aaa")
		l[1].Kinds = []int{api.ItemMail, api.ItemNote, 0}
		return l
	}
	long := fresh()
	l := slices.Clone(long)[:3]
	l[0].Custodians, l[1].Kinds = l[0].Custodians[:2], l[1].Kinds[:2]
	call(l)
	is(t, long, fresh())
	is(t, l, holds())
	is(t, l[:4][3], whole("zzz", 0))
}

// Items.

func item(id, who, parent string) api.Item {
	return api.Item{Id: id, Custodian: who, Kind: api.ItemMail, At: 100, Parent: parent, Text: "A deal\n"}
}

func at(x api.Item, moment int) api.Item {
	x.At = moment
	return x
}

func kind(x api.Item, what int) api.Item {
	x.Kind = what
	return x
}

func text(x api.Item, s string) api.Item {
	x.Text = s
	return x
}

// eachBadItem calls a function with items that intake.CheckItem does not accept.
func eachBadItem(t *testing.T, call func(x api.Item) (api.Errno, []any)) {
	t.Helper()
	for want, x := range map[api.Errno]api.Item{
		api.ErrName:  item("A", "ann", ""),
		api.ErrKind:  kind(item("a", "ann", ""), 0),
		api.ErrArg:   at(item("a", "ann", ""), api.End),
		api.ErrLoop:  item("a", "ann", "a"),
		api.ErrLarge: text(item("a", "ann", ""), strings.Repeat("\n", api.MaxBody+1)),
		api.ErrForm:  text(item("a", "ann", ""), "deal"),
	} {
		e, results := call(x)
		fails(t, e, want, results...)
	}
}

// eachBadList calls a function with lists that intake.Check does not accept.
func eachBadList(t *testing.T, call func(l []api.Item) (api.Errno, []any)) {
	t.Helper()
	eachBadItem(t, func(x api.Item) (api.Errno, []any) { return call([]api.Item{x}) })
	for want, l := range map[api.Errno][]api.Item{
		api.ErrLarge: make([]api.Item, api.MaxItems+1),
		api.ErrOrder: {item("b", "ann", ""), item("a", "ann", "")},
		api.ErrNone:  {item("a", "ann", "b")},
		api.ErrLoop:  {item("a", "ann", "b"), item("b", "ann", "a")},
		api.ErrRule:  {kind(item("a", "ann", ""), api.ItemFile), item("b", "ann", "a")},
	} {
		e, results := call(l)
		fails(t, e, want, results...)
	}
}

// keepsItems calls a function with items that have room, and checks that they are as before (Z2).
func keepsItems(t *testing.T, call func(l []api.Item)) {
	t.Helper()
	fresh := func() []api.Item {
		return []api.Item{item("a", "zed", ""), item("b", "ann", "a"), item("c", "bob", ""), item("d", "", "")}
	}
	l := fresh()
	call(l[:3])
	is(t, l, fresh())
}

// Schedules.

func manySchedules(many int) []api.Schedule {
	var l []api.Schedule
	for i := range many {
		l = append(l, api.Schedule{Key: name("s", i)})
	}
	return l
}

// eachBadSchedules calls a function with lists that CheckSchedules does not accept.
func eachBadSchedules(t *testing.T, call func(l []api.Schedule) (api.Errno, []any)) {
	t.Helper()
	for want, l := range map[api.Errno][]api.Schedule{
		api.ErrLarge: manySchedules(api.MaxSchedules + 1),
		api.ErrName:  {{Key: "S"}},
		api.ErrOrder: {{Key: "s"}, {Key: "s"}},
		api.ErrKind:  {{Key: "s", Kinds: []int{5}}},
		api.ErrArg:   {{Key: "s", Days: -1}},
	} {
		e, results := call(l)
		fails(t, e, want, results...)
	}
}

// keepsSchedules calls a function with schedules whose lists have room, and checks that they are as before (Z2).
func keepsSchedules(t *testing.T, call func(l []api.Schedule)) {
	t.Helper()
	fresh := func() []api.Schedule {
		return []api.Schedule{{Key: "one", Custodians: words("ann bob aaa"), Kinds: []int{1, 2, 0}, Days: 3}, {Key: "two", Days: 1, Last: true}, {}}
	}
	l := fresh()
	cut := slices.Clone(l)[:2]
	cut[0].Custodians, cut[0].Kinds = cut[0].Custodians[:2], cut[0].Kinds[:2]
	call(cut)
	is(t, l, fresh())
	is(t, cut[0].Custodians, words("ann bob"))
	is(t, cut[:3][2], api.Schedule{})
}

// What the document says of scopes, word by word.

func contains[T comparable](l []T, x T) bool { return len(l) == 0 || slices.Contains(l, x) }

func inScope(h api.Hold, x api.Item) bool {
	found := true
	if h.Query != "" {
		q, _, _ := query.Parse(h.Query)
		found, _ = query.Matches(q, x)
	}
	return contains(h.Custodians, x.Custodian) && contains(h.Kinds, x.Kind) && x.At >= h.Window.From && x.At < h.Window.To && found
}

func isOpen(h api.Hold, at int) bool { return h.At <= at && (h.Released == -1 || h.Released > at) }

// holders returns the keys of the holds that are open, with an item in their scope.
func holders(l []api.Hold, x api.Item, at int) []string {
	var keys []string
	for _, h := range l {
		if isOpen(h, at) && inScope(h, x) {
			keys = append(keys, h.Key)
		}
	}
	return keys
}

// untilOf returns until when an item is kept, and the key of the schedule; an empty one if there is none.
func untilOf(s []api.Schedule, l []api.Item, x api.Item) (int, string) {
	until, key := 0, ""
	for k := len(s) - 1; k >= 0; k-- {
		if !contains(s[k].Custodians, x.Custodian) || !contains(s[k].Kinds, x.Kind) {
			continue
		}
		from := x.At
		if s[k].Last {
			for _, y := range family(l, x) {
				from = max(from, y.At)
			}
		}
		if m := min(api.End, from+s[k].Days*api.DayLong); key == "" || m >= until {
			until, key = m, s[k].Key
		}
	}
	return until, key
}

func family(l []api.Item, x api.Item) []api.Item {
	f, _ := intake.FamilyOf(l, x.Id)
	var members []api.Item
	for _, id := range f.Items {
		members = append(members, l[slices.IndexFunc(l, func(y api.Item) bool { return y.Id == id })])
	}
	return members
}

// Random holds, schedules and items. Moments are few, so that much falls together.

func pick[T any](r *rand.Rand, l ...T) T { return l[r.IntN(len(l))] }

func randomMoment(r *rand.Rand) int {
	if r.IntN(8) == 0 {
		return api.End - 1 - r.IntN(3)
	}
	return r.IntN(5)*api.DayLong + r.IntN(2)
}

func some[T any](r *rand.Rand, l ...T) []T {
	var part []T
	if r.IntN(2) == 0 {
		for _, x := range l {
			if r.IntN(2) == 0 {
				part = append(part, x)
			}
		}
	}
	return part
}

func randomHolds(r *rand.Rand, most int) []api.Hold {
	var l []api.Hold
	for i := range r.IntN(most + 1) {
		h := whole(name("h", i), randomMoment(r))
		if later := randomMoment(r); r.IntN(2) == 0 && later >= h.At {
			h.Released = later
		}
		h.Custodians, h.Kinds = some(r, "ann", "bob", "cid"), some(r, 1, 2, 3, 4)
		if from, to := randomMoment(r), randomMoment(r); r.IntN(2) == 0 && from <= to {
			h.Window = api.Window{From: from, To: to}
		}
		h.Query = pick(r, "", "", "all", "deal", "not deal", "\"a deal\" or owner:bob", "from:2")
		l = append(l, h)
	}
	return l
}

func randomSchedules(r *rand.Rand, most int) []api.Schedule {
	var l []api.Schedule
	for i := range r.IntN(most + 1) {
		days := pick(r, 0, 1, 2, 3, 4, r.IntN(api.MaxDay+1), api.MaxDay)
		l = append(l, api.Schedule{Key: name("s", i), Custodians: some(r, "ann", "bob", "cid"), Kinds: some(r, 1, 2, 3, 4), Days: days, Last: r.IntN(2) == 0})
	}
	return l
}

// randomItems are items in families.
func randomItems(r *rand.Rand, most int) []api.Item {
	var l []api.Item
	for i := range r.IntN(most + 1) {
		x := at(item(name("m", i), pick(r, "ann", "bob", "cid", "dan"), ""), randomMoment(r))
		x.Kind, x.Text = 1+r.IntN(4), pick(r, "", "a deal\n", "no\n", "deal\n")
		l = append(l, x)
	}
	for i := range l {
		up := r.IntN(len(l))
		if r.IntN(2) == 0 && l[up].Kind%2 == 1 && l[up].Parent == "" && up != i {
			l[i].Parent = l[up].Id
			if intake.Check(l) != api.OK {
				l[i].Parent = ""
			}
		}
	}
	return l
}
