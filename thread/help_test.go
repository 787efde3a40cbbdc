package thread_test

import (
	"math/rand/v2"
	"reflect"
	"slices"
	"strconv"
	"strings"
	"testing"

	"paperchase/api"
	"paperchase/thread"
)

// is compares values; an empty and a nil list are the same (Z5).
func is(t *testing.T, got, want any) {
	t.Helper()
	if !reflect.DeepEqual(got, want) && !(isEmptyList(got) && isEmptyList(want)) {
		t.Errorf("got %+v, want %+v", got, want)
	}
}

func isEmptyList(x any) bool {
	v := reflect.ValueOf(x)
	return v.Kind() == reflect.Slice && v.Len() == 0
}

// fails checks an error, and that all other results are zero values (Z3).
func fails(t *testing.T, e, want api.Errno, results ...any) {
	t.Helper()
	if e != want {
		t.Errorf("got error %d, want %d", e, want)
	}
	for _, r := range results {
		if !isEmptyList(r) && !reflect.ValueOf(r).IsZero() {
			t.Errorf("with error %d got %+v", e, r)
		}
	}
}

func words(s string) []string { return strings.Fields(s) }

// people makes an address of each word.
func people(names string) []api.Address {
	var l []api.Address
	for _, name := range words(names) {
		l = append(l, api.Address{Mail: name + "@b.de"})
	}
	return l
}

func mail(id string, at int, subject string, refs string) api.Mail {
	return api.Mail{Id: id, At: at, From: people("ann")[0], To: people("bo"), Refs: words(refs), Subject: subject}
}

// mailOf is a letter from Ann to Bo with a body.
func mailOf(id string, at int, body string) api.Mail {
	m := mail(id, at, "Re: S", "")
	m.Body = body
	return m
}

// name makes strings that are in order.
func name(start string, i int) string { return start + strconv.Itoa(1_000_000 + i)[1:] }

func names(start string, many int) []string {
	var l []string
	for i := range many {
		l = append(l, name(start, i))
	}
	return l
}

func addresses(start string, many int) []api.Address {
	return people(strings.Join(names(start, many), " "))
}

func letters(many int) []api.Mail {
	var l []api.Mail
	for i := range many {
		l = append(l, mail(name("m", i), i, "", ""))
	}
	return l
}

func full() api.Mail {
	return api.Mail{
		Id: "id@x", At: 100, From: api.Address{Name: "Ann Lee", Mail: "ann@b.de"},
		To: people("bo cy"), Cc: people("di"), Refs: words("r1 r2"), Subject: "Hi", Body: "one\n",
	}
}

// badLetters are letters with the errors of Check.
func badLetters() map[api.Errno]api.Mail {
	form, arg, large, twice, loop := full(), full(), full(), full(), full()
	form.Id = ""
	arg.At = -1
	large.To = addresses("x", api.MaxParties)
	twice.Cc = people("bo")
	loop.Refs = words("id@x")
	return map[api.Errno]api.Mail{api.ErrForm: form, api.ErrArg: arg, api.ErrLarge: large, api.ErrTwice: twice, api.ErrLoop: loop}
}

// eachBadList calls a function with letters that CheckMails does not accept.
func eachBadList(t *testing.T, call func(l []api.Mail) (any, api.Errno)) {
	t.Helper()
	for want, m := range badLetters() {
		got, e := call([]api.Mail{mail("a", 1, "", ""), m})
		fails(t, e, want, got)
	}
	got, e := call(letters(api.MaxItems + 1))
	fails(t, e, api.ErrLarge, got)
	got, e = call([]api.Mail{mail("a", 1, "", ""), mail("b", 1, "", ""), mail("a", 2, "", "")})
	fails(t, e, api.ErrTwice, got)
}

// eachBadBody calls a function with bodies that are none.
func eachBadBody(t *testing.T, call func(body string) (any, api.Errno)) {
	t.Helper()
	got, e := call(strings.Repeat("x", api.MaxBody+1))
	fails(t, e, api.ErrLarge, got)
	for _, body := range []string{"x", "a\nb", "\t\n", "\r\n", "\x7f\n", "\xff\n"} {
		got, e := call(body)
		fails(t, e, api.ErrForm, got)
	}
}

// keepsArguments calls a function with letters whose lists have room, and checks that they are as before (Z2).
func keepsArguments(t *testing.T, call func(l []api.Mail)) {
	t.Helper()
	fresh := func() []api.Mail {
		l := []api.Mail{full(), mail("z", 1, "Re: Hi", "id@x"), mail("a", 1, "hi", "r2 r1")}
		l[0].To = people("zed bo cy rest")
		l[0].Refs = words("r2 r1 rest")
		return append(l, full())
	}
	l := fresh()
	l[0].To, l[0].Refs = l[0].To[:3], l[0].Refs[:2]
	call(l[:3])
	l[0].To, l[0].Refs = l[0].To[:4], l[0].Refs[:3]
	is(t, l, fresh())
}

func pick(r *rand.Rand, l ...string) string { return l[r.IntN(len(l))] }

// someOf returns some of the words of a string, each at most once, in any order.
func someOf(r *rand.Rand, s string, most int) []string {
	l := words(s)
	r.Shuffle(len(l), func(i, j int) { l[i], l[j] = l[j], l[i] })
	return l[:r.IntN(most+1)]
}

// randomLetters have few ids, subjects, people and paragraphs, so that much is shared.
func randomLetters(r *rand.Rand) []api.Mail {
	ids := words("a b c d e f g h")
	var l []api.Mail
	for _, id := range someOf(r, "a b c d e f", 6) {
		m := mail(id, r.IntN(60), pick(r, "", "Re:", "one", "Re: one", "Fwd: two", "two", "RE: RE: one"), "")
		m.From = people(pick(r, "ann", "bo", "cy"))[0]
		m.To = people(strings.Join(someOf(r, "ann bo cy di", 2), " "))
		others := slices.DeleteFunc(slices.Clone(ids), func(x string) bool { return x == id })
		m.Refs = someOf(r, strings.Join(others, " "), r.IntN(4))
		for range r.IntN(4) {
			m.Body += pick(r, "p\n\n", "q\n\n", "> r\n\n", "s\n\n")
		}
		l = append(l, m)
	}
	return l
}

// shuffled returns letters in another order.
func shuffled(r *rand.Rand, l []api.Mail) []api.Mail {
	l = slices.Clone(l)
	r.Shuffle(len(l), func(i, j int) { l[i], l[j] = l[j], l[i] })
	return l
}

func byTime(l []api.Mail) []api.Mail {
	l = slices.Clone(l)
	slices.SortFunc(l, func(a, b api.Mail) int {
		if a.At != b.At {
			return a.At - b.At
		}
		return strings.Compare(a.Id, b.Id)
	})
	return l
}

func mustThreads(t *testing.T, l []api.Mail, within int) []api.Thread {
	t.Helper()
	threads, e := thread.Threads(l, within)
	is(t, e, api.OK)
	return threads
}
