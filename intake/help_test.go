package intake_test

import (
	"math/rand/v2"
	"reflect"
	"slices"
	"strconv"
	"strings"
	"testing"

	"paperchase/api"
	"paperchase/intake"
)

// same compares values; an empty and a nil list are the same (Z5).
func same(a, b any) bool {
	x, y := reflect.ValueOf(a), reflect.ValueOf(b)
	if x.Kind() == reflect.Slice && y.Kind() == reflect.Slice && x.Len() == 0 && y.Len() == 0 {
		return true
	}
	return reflect.DeepEqual(a, b)
}

func is(t *testing.T, got, want any) {
	t.Helper()
	if !same(got, want) {
		t.Errorf("got %v, want %v", got, want)
	}
}

// fails checks an error, and that all other results are zero values (Z3).
func fails(t *testing.T, e, want api.Errno, results ...any) {
	t.Helper()
	if e != want {
		t.Errorf("got error %d, want %d", e, want)
	}
	for _, r := range results {
		if v := reflect.ValueOf(r); !v.IsZero() && !(v.Kind() == reflect.Slice && v.Len() == 0) {
			t.Errorf("with error %d got %v", e, r)
		}
	}
}

func item(id, who string, kind int, parent, text string) api.Item {
	return api.Item{Id: id, Custodian: who, Kind: kind, Name: "Name of " + id, At: 100, Parent: parent, Text: text}
}

// list has a family of a (b with c and d within, e) and one of f.
func list() []api.Item {
	return []api.Item{
		item("a", "ann", api.ItemMail, "", "hello\n"),
		item("b", "ann", api.ItemBox, "a", ""),
		item("c", "bob", api.ItemFile, "b", "one\ntwo\n"),
		item("d", "ann", api.ItemNote, "b", "three\n"),
		item("e", "ann", api.ItemFile, "a", ""),
		item("f", "cid", api.ItemFile, "", "one\ntwo\n"),
	}
}

// mixed has parents that come after their children, and families whose items are not neighbours.
func mixed() []api.Item {
	return []api.Item{
		item("a", "ann", api.ItemFile, "z", "1\n"),
		item("b", "bob", api.ItemMail, "", "2\n"),
		item("c", "ann", api.ItemBox, "z", "3\n"),
		item("d", "bob", api.ItemFile, "b", "4\n"),
		item("e", "ann", api.ItemNote, "c", "5\n"),
		item("z", "ann", api.ItemMail, "", "6\n"),
	}
}

// chain is boxes, each one within the one before.
func chain(many int) []api.Item {
	var l []api.Item
	parent := ""
	for i := range many {
		id := name("n", i)
		l = append(l, item(id, "ann", api.ItemBox, parent, ""))
		parent = id
	}
	return l
}

// name makes keys that are in order.
func name(start string, i int) string {
	return start + strconv.Itoa(1_000_000 + i)[1:]
}

func many(n int) []api.Item {
	var l []api.Item
	for i := range n {
		l = append(l, item(name("m", i), "ann", api.ItemFile, "", ""))
	}
	return l
}

// badLists are lists with the error of Check.
func badLists() map[api.Errno][]api.Item {
	l := map[api.Errno][]api.Item{
		api.ErrLarge: many(api.MaxItems + 1),
		api.ErrName:  {item("A", "ann", api.ItemFile, "", "")},
		api.ErrOrder: {item("b", "ann", api.ItemFile, "", ""), item("a", "ann", api.ItemFile, "", "")},
		api.ErrNone:  {item("a", "ann", api.ItemFile, "b", "")},
		api.ErrLoop:  {item("a", "ann", api.ItemBox, "b", ""), item("b", "ann", api.ItemBox, "a", "")},
		api.ErrRule:  {item("a", "ann", api.ItemFile, "", ""), item("b", "ann", api.ItemFile, "a", "")},
	}
	return l
}

// eachBad calls a function with lists that Check does not accept.
func eachBad(t *testing.T, call func(l []api.Item) (api.Errno, []any)) {
	t.Helper()
	for want, l := range badLists() {
		e, results := call(l)
		fails(t, e, want, results...)
	}
}

// keepsArguments calls a function with lists that have room, and checks that they are as before (Z2).
func keepsArguments(t *testing.T, l []api.Item, call func(l []api.Item)) {
	t.Helper()
	long := append(slices.Clone(l), item("zz", "zed", api.ItemFile, "", ""))
	before := slices.Clone(long)
	call(long[:len(l)])
	if !slices.Equal(long, before) {
		t.Errorf("the argument became %v", long)
	}
}

func mustFamilies(t *testing.T, l []api.Item) []api.Family {
	t.Helper()
	f, e := intake.Families(l)
	is(t, e, api.OK)
	return f
}

func pick(r *rand.Rand, l ...string) string { return l[r.IntN(len(l))] }

func words(s string) []string { return strings.Fields(s) }
