package query_test

import (
	"maps"
	"math/rand/v2"
	"reflect"
	"regexp"
	"slices"
	"strconv"
	"strings"
	"testing"

	"paperchase/api"
	"paperchase/query"
)

// is compares values; an empty and a nil list are the same (Z5).
func is(t *testing.T, got, want any) {
	t.Helper()
	if !reflect.DeepEqual(got, want) && !(isEmptyList(got) && isEmptyList(want)) {
		t.Errorf("got %+v, want %+v", got, want)
	}
}

func isEmptyList(x any) bool {
	v := reflect.ValueOf(x)
	return v.Kind() == reflect.Slice && v.Len() == 0
}

// fails checks an error, and that all other results are zero values (Z3).
func fails(t *testing.T, e, want api.Errno, results ...any) {
	t.Helper()
	if e != want {
		t.Errorf("got error %d, want %d", e, want)
	}
	for _, r := range results {
		if !isEmptyList(r) && !reflect.ValueOf(r).IsZero() {
			t.Errorf("with error %d got %+v", e, r)
		}
	}
}

func words(s string) []string { return strings.Fields(s) }

func xs(many int) string { return strings.Repeat("x", many) }

// name makes keys that are in order.
func name(start string, i int) string { return start + strconv.Itoa(1_000_000 + i)[1:] }

// Searches as they are written in tests.

func word(pattern string) api.Query {
	return api.Query{Kind: api.FindWord, Words: []string{pattern}}
}

func phrase(patterns string) api.Query {
	return api.Query{Kind: api.FindPhrase, Words: words(patterns)}
}

func link(kind, number int, a, b api.Query) api.Query {
	return api.Query{Kind: kind, Number: number, Args: []api.Query{a, b}}
}

func near(number int, a, b api.Query) api.Query { return link(api.FindNear, number, a, b) }

func pre(number int, a, b api.Query) api.Query { return link(api.FindPre, number, a, b) }

func and(l ...api.Query) api.Query { return api.Query{Kind: api.FindAnd, Args: l} }

func or(l ...api.Query) api.Query { return api.Query{Kind: api.FindOr, Args: l} }

func not(q api.Query) api.Query { return api.Query{Kind: api.FindNot, Args: []api.Query{q}} }

func all() api.Query { return api.Query{Kind: api.FindAll} }

func numbered(kind, number int) api.Query { return api.Query{Kind: kind, Number: number} }

func named(kind int, word string) api.Query { return api.Query{Kind: kind, Words: []string{word}} }

// nots is a search within as many FindNots.
func nots(many int, q api.Query) api.Query {
	for range many {
		q = not(q)
	}
	return q
}

// list is as many searches for different words.
func list(many int) []api.Query {
	var l []api.Query
	for i := range many {
		l = append(l, word(name("w", i)))
	}
	return l
}

func parse(t *testing.T, text string) api.Query {
	t.Helper()
	q, at, e := query.Parse(text)
	if e != api.OK || at != 0 {
		t.Errorf("Parse of %q: error %d at %d", text, e, at)
	}
	return q
}

func print(t *testing.T, q api.Query) string {
	t.Helper()
	s, e := query.Print(q)
	is(t, e, api.OK)
	return s
}

// badQueries are searches with the errors of Check.
func badQueries() []struct {
	e api.Errno
	q api.Query
} {
	return []struct {
		e api.Errno
		q api.Query
	}{
		{api.ErrLarge, and(list(api.MaxQuery)...)},
		{api.ErrLarge, nots(api.MaxInside, all())},
		{api.ErrLarge, near(1, near(1, near(1, near(1, word("a"), word("b")), word("c")), word("d")), word("e"))},
		{api.ErrKind, api.Query{}},
		{api.ErrType, near(1, word("a"), all())},
		{api.ErrForm, and(word("a"))},
		{api.ErrName, word("and")},
		{api.ErrArg, numbered(api.FindFrom, -1)},
		{api.ErrKind, numbered(api.FindKind, 5)},
	}
}

// eachBadQuery calls a function with searches that Check does not accept.
func eachBadQuery(t *testing.T, call func(q api.Query) (any, api.Errno)) {
	t.Helper()
	for _, c := range badQueries() {
		got, e := call(c.q)
		fails(t, e, c.e, got)
	}
}

// Items.

func item(id, text string) api.Item {
	return api.Item{Id: id, Custodian: "ann", Kind: api.ItemMail, Name: "A deal", At: 3 * api.DayLong, Text: text}
}

// texts makes an item of each string: a, b, c and so on.
func texts(l ...string) []api.Item {
	var items []api.Item
	for i, s := range l {
		items = append(items, item(string(rune('a'+i)), s))
	}
	return items
}

func child(parent string, x api.Item) api.Item {
	x.Parent = parent
	return x
}

// badItems are items with the errors of intake.CheckItem.
func badItems() map[api.Errno]api.Item {
	l := map[api.Errno]api.Item{
		api.ErrName:  item("A", ""),
		api.ErrLarge: item("a", xs(api.MaxBody)+"\n"),
		api.ErrForm:  item("a", "x"),
		api.ErrLoop:  child("a", item("a", "")),
	}
	kind, at := item("a", ""), item("a", "")
	kind.Kind, at.At = 5, -1
	l[api.ErrKind], l[api.ErrArg] = kind, at
	return l
}

func eachBadItem(t *testing.T, call func(x api.Item) (any, api.Errno)) {
	t.Helper()
	for want, x := range badItems() {
		got, e := call(x)
		fails(t, e, want, got)
	}
}

// eachBadList calls a function with lists that intake.Check does not accept.
func eachBadList(t *testing.T, call func(l []api.Item) (any, api.Errno)) {
	t.Helper()
	eachBadItem(t, func(x api.Item) (any, api.Errno) { return call([]api.Item{x}) })
	large := make([]api.Item, api.MaxItems+1)
	for want, l := range map[api.Errno][]api.Item{
		api.ErrLarge: large,
		api.ErrOrder: {item("b", ""), item("a", "")},
		api.ErrNone:  {child("z", item("a", ""))},
		api.ErrLoop:  {child("b", item("a", "")), child("a", item("b", ""))},
	} {
		got, e := call(l)
		fails(t, e, want, got)
	}
}

// keepsQuery calls a function with a search whose lists have room, and checks that it is as before (Z2).
func keepsQuery(t *testing.T, call func(q api.Query)) {
	t.Helper()
	fresh := func() api.Query {
		phrase := api.Query{Kind: api.FindPhrase, Words: words("d c rest")}
		return and(near(3, phrase, or(word("c"), word("b"), word("c"))), not(and(word("z"), word("a"))), all(), word("rest"))
	}
	cut := func(q api.Query) api.Query {
		q.Args = q.Args[:3]
		q.Args[0].Args[0].Words = q.Args[0].Args[0].Words[:2]
		return q
	}
	q := fresh()
	whole := q.Args
	call(cut(q))
	is(t, q.Args[0].Args[0].Words[:3], words("d c rest"))
	is(t, whole[3], word("rest"))
	is(t, cut(q), cut(fresh()))
}

// What the document says of searches, word by word.

type run struct{ first, last int }

type marks map[int]bool

func fitting(pattern, word string) bool {
	s := strings.ReplaceAll(regexp.QuoteMeta(pattern), `\?`, ".")
	return regexp.MustCompile("^" + strings.ReplaceAll(s, `\*`, ".*") + "$").MatchString(word)
}

func wordsOf(s string) []string {
	var l []string
	for _, w := range query.Words(s) {
		l = append(l, w.Word)
	}
	return l
}

// placesOf returns the places of a search by words, with the marks of each.
func placesOf(q api.Query, text []string) map[run]marks {
	l := map[run]marks{}
	put := func(r run, some marks) {
		if l[r] == nil {
			l[r] = marks{}
		}
		maps.Copy(l[r], some)
	}
	pre := func(x, y api.Query) {
		for a, left := range placesOf(x, text) {
			for b, right := range placesOf(y, text) {
				if b.first > a.last && b.first-a.last-1 <= q.Number {
					put(run{a.first, b.last}, left)
					put(run{a.first, b.last}, right)
				}
			}
		}
	}
	switch q.Kind {
	case api.FindWord, api.FindPhrase:
		for first := range len(text) - len(q.Words) + 1 {
			some := marks{}
			for k, pattern := range q.Words {
				if fitting(pattern, text[first+k]) {
					some[first+k] = true
				}
			}
			if len(some) == len(q.Words) {
				put(run{first, first + len(q.Words) - 1}, some)
			}
		}
	case api.FindOr:
		for _, arg := range q.Args {
			for r, some := range placesOf(arg, text) {
				put(r, some)
			}
		}
	case api.FindPre:
		pre(q.Args[0], q.Args[1])
	case api.FindNear:
		pre(q.Args[0], q.Args[1])
		pre(q.Args[1], q.Args[0])
	}
	return l
}

func finds(q api.Query, x api.Item) bool {
	switch q.Kind {
	case api.FindAll:
		return true
	case api.FindAnd:
		for _, arg := range q.Args {
			if !finds(arg, x) {
				return false
			}
		}
		return true
	case api.FindOr:
		for _, arg := range q.Args {
			if finds(arg, x) {
				return true
			}
		}
		return false
	case api.FindNot:
		return !finds(q.Args[0], x)
	case api.FindOwner:
		return x.Custodian == q.Words[0]
	case api.FindKind:
		return x.Kind == q.Number
	case api.FindName:
		return len(placesOf(word(q.Words[0]), wordsOf(x.Name))) > 0
	case api.FindFrom:
		return x.At >= q.Number*api.DayLong
	case api.FindUntil:
		return x.At < (q.Number+1)*api.DayLong
	}
	return len(placesOf(q, wordsOf(x.Text))) > 0
}

// hitsOf returns the numbers of the words that Hits returns.
func hitsOf(q api.Query, x api.Item) marks {
	l := marks{}
	if !finds(q, x) {
		return l
	}
	switch q.Kind {
	case api.FindAnd, api.FindOr:
		for _, arg := range q.Args {
			maps.Copy(l, hitsOf(arg, x))
		}
	case api.FindWord, api.FindPhrase, api.FindNear, api.FindPre:
		for _, some := range placesOf(q, wordsOf(x.Text)) {
			maps.Copy(l, some)
		}
	}
	return l
}

// Random searches and items.

func pick(r *rand.Rand, l ...string) string { return l[r.IntN(len(l))] }

func randomPattern(r *rand.Rand) string { return pick(r, "a", "b", "c", "ab", "a*", "a?", "a?*") }

func randomWords(r *rand.Rand, links int) api.Query {
	args := func(most int) []api.Query {
		var l []api.Query
		for range 2 + r.IntN(most-1) {
			l = append(l, randomWords(r, links))
		}
		return l
	}
	switch n := r.IntN(10); {
	case n < 3:
		return or(args(3)...)
	case n < 7 && links > 0:
		links--
		return api.Query{Kind: api.FindNear + r.IntN(2), Number: r.IntN(4), Args: args(2)}
	case n < 8:
		l := []string{randomPattern(r), randomPattern(r)}
		return api.Query{Kind: api.FindPhrase, Words: append(l, l[:r.IntN(2)]...)}
	}
	return word(randomPattern(r))
}

func randomPart(r *rand.Rand, depth int) api.Query {
	if depth > 0 && r.IntN(3) > 0 {
		if r.IntN(3) == 0 {
			return not(randomPart(r, depth-1))
		}
		var l []api.Query
		for range 2 + r.IntN(2) {
			l = append(l, randomPart(r, depth-1))
		}
		return api.Query{Kind: api.FindAnd + r.IntN(2), Args: l}
	}
	switch r.IntN(12) {
	case 0:
		return all()
	case 1:
		return named(api.FindOwner, pick(r, "ann", "bob"))
	case 2:
		return numbered(api.FindKind, 1+r.IntN(4))
	case 3:
		return named(api.FindName, randomPattern(r))
	case 4:
		return numbered(api.FindFrom, r.IntN(4))
	case 5:
		return numbered(api.FindUntil, r.IntN(4))
	case 6:
		return numbered(api.FindFrom+r.IntN(2), api.MaxDay-r.IntN(2))
	case 7, 8:
		return randomWords(r, 2)
	}
	return word(pick(r, "a", "b", "c"))
}

// randomQuery is a right search.
func randomQuery(r *rand.Rand) api.Query {
	for {
		if q := randomPart(r, r.IntN(5)); query.Check(q) == api.OK {
			return q
		}
	}
}

func randomText(r *rand.Rand, most int) string {
	s := ""
	for range r.IntN(most + 1) {
		s += pick(r, "a", "A", "b", "c", "ab", "aB", "abc", "d") + pick(r, " ", " ", "\n", ", ", "-")
	}
	return s + "\n"
}

func randomItem(r *rand.Rand, id string) api.Item {
	return api.Item{Id: id, Custodian: pick(r, "ann", "bob"), Kind: 1 + r.IntN(4), Name: pick(r, "", "A", "b, ab", "x c"), At: r.IntN(4*api.DayLong) + r.IntN(2)*api.DayLong*(api.MaxDay-3), Text: randomText(r, 8)}
}

// randomItems are items in families.
func randomItems(r *rand.Rand) []api.Item {
	var l []api.Item
	for i := range r.IntN(9) {
		x := randomItem(r, string(rune('a'+i)))
		if up := r.IntN(2 * (i + 1)); up < i && l[up].Kind != api.ItemFile && l[up].Kind != api.ItemNote && l[up].Parent == "" {
			x.Parent = l[up].Id
		}
		l = append(l, x)
	}
	return l
}

func sorted(m marks) []int { return slices.Sorted(maps.Keys(m)) }
