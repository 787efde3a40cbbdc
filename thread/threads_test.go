package thread_test

import (
	"math"
	"math/rand/v2"
	"slices"
	"strings"
	"testing"

	"paperchase/api"
	"paperchase/thread"
)

// idsOf returns the Ids of each thread, as words.
func idsOf(threads []api.Thread) []string {
	var l []string
	for _, x := range threads {
		l = append(l, strings.Join(x.Ids, " "))
	}
	return l
}

// from gives a letter other people.
func from(m api.Mail, who, to string) api.Mail {
	m.From, m.To = people(who)[0], people(to)
	return m
}

// P2.9
func TestThreads(t *testing.T) {
	for _, c := range []struct {
		letters []api.Mail
		want    []string
	}{
		{nil, nil},
		{[]api.Mail{mail("b", 2, "", ""), mail("a", 2, "", ""), mail("c", 1, "", "")}, []string{"c", "a", "b"}},
		// (1): by ids
		{[]api.Mail{mail("b", 2, "", "a"), mail("a", 2, "", "")}, []string{"a b"}},
		{[]api.Mail{mail("c", 9, "", "x"), mail("b", 9, "", "y x z"), mail("a", 9, "", "")}, []string{"a", "b c"}},
		{[]api.Mail{mail("c", 900, "x", "b"), mail("d", 5, "y", "b"), mail("e", 1, "z", "d")}, []string{"e d c"}},
		// (2): by subjects
		{[]api.Mail{mail("a", 1, "Lunch", ""), mail("b", 11, "Re: lunch", "")}, []string{"a b"}},
		{[]api.Mail{mail("a", 1, "Fwd: Lunch", ""), mail("b", 11, "LUNCH", "")}, []string{"a b"}},
		{[]api.Mail{mail("a", 1, "[x] Lunch", ""), mail("b", 2, "Lunch", "")}, []string{"a", "b"}},
		{[]api.Mail{mail("a", 1, "Lunch", ""), mail("b", 12, "Re: Lunch", "")}, []string{"a", "b"}},
		{[]api.Mail{mail("b", 1, "Re: Lunch", ""), mail("a", 12, "Re: Lunch", "")}, []string{"b", "a"}},
		{[]api.Mail{mail("a", 1, "Re:", ""), mail("b", 2, "Re:", "")}, []string{"a", "b"}},
		{[]api.Mail{mail("a", 1, "Re: Lunch", ""), mail("b", 2, "Re: Brunch", "")}, []string{"a", "b"}},
		{[]api.Mail{mail("a", 1, "Re: Lunch", ""), from(mail("b", 2, "Lunch", ""), "cy", "di")}, []string{"a", "b"}},
		{[]api.Mail{mail("a", 1, "Re: Lunch", ""), from(mail("b", 2, "Lunch", ""), "cy", "di ann")}, []string{"a b"}},
		{[]api.Mail{mail("a", 5, "Lunch", ""), mail("b", 5, "Re: Lunch", ""), mail("c", 5, "Lunch", "")}, []string{"a b c"}},
		// a third one with which both are
		{[]api.Mail{mail("a", 1, "Lunch", ""), mail("b", 11, "Re: Lunch", ""), mail("c", 21, "Lunch", "")}, []string{"a b c"}},
		{[]api.Mail{mail("a", 1, "Re: Lunch", ""), mail("b", 11, "Lunch", ""), mail("c", 21, "Lunch", "")}, []string{"a b", "c"}},
		{[]api.Mail{mail("a", 1, "Re: Lunch", ""), from(mail("b", 2, "Re: Lunch", ""), "cy", "di"), from(mail("c", 3, "Lunch", ""), "di", "bo")}, []string{"a b c"}},
		{[]api.Mail{mail("a", 1, "Lunch", "x"), mail("b", 900, "y", "x"), from(mail("c", 2, "Re: lunch", ""), "cy", "ann")}, []string{"a c b"}},
	} {
		is(t, idsOf(mustThreads(t, c.letters, 10)), c.want)
	}
}

// P2.9
func TestThreadFields(t *testing.T) {
	l := []api.Mail{
		from(mail("c", 7, "Re: [x] Two things", "a"), "cy", "zed ann"),
		from(mail("b", 5, "Other", "a"), "bo", "ann"),
		mail("d", 4, "Fwd: Else", ""),
		from(mail("a", 5, "Re: The First", ""), "ann", ""),
	}
	l[0].Cc = people("di")
	is(t, mustThreads(t, l, 0), []api.Thread{
		{Ids: words("d"), Subject: "else", From: 4, To: 4, Parties: words("ann@b.de bo@b.de")},
		{Ids: words("a b c"), Subject: "the first", From: 5, To: 7, Parties: words("ann@b.de bo@b.de cy@b.de di@b.de zed@b.de")},
	})
	keepsArguments(t, func(l []api.Mail) { thread.Threads(l, 5) })
}

// P2.9
func TestThreadsErrors(t *testing.T) {
	for _, within := range []int{-1, api.End + 1, math.MinInt, math.MaxInt} {
		l, e := thread.Threads(letters(2), within)
		fails(t, e, api.ErrArg, l)
		n, e := thread.ThreadOf(letters(2), within, "")
		fails(t, e, api.ErrArg, n)
		ids, e := thread.Inclusive(letters(2), within)
		fails(t, e, api.ErrArg, ids)
		s, e := thread.Timeline(letters(2), within, -1)
		fails(t, e, api.ErrArg, s)
	}
	eachBadList(t, func(l []api.Mail) (any, api.Errno) { return thread.Threads(l, -1) })
	eachBadList(t, func(l []api.Mail) (any, api.Errno) { return thread.ThreadOf(l, -1, "") })
	last := []api.Mail{mail("a", 0, "S", ""), mail("b", api.End-1, "Re: S", "")}
	is(t, idsOf(mustThreads(t, last, api.End)), []string{"a b"})
	is(t, idsOf(mustThreads(t, last, api.End-1)), []string{"a b"})
	is(t, idsOf(mustThreads(t, last, api.End-2)), []string{"a", "b"})
	last[1].At = 0
	is(t, idsOf(mustThreads(t, last, 0)), []string{"a b"})
}

// P2.9
func TestThreadOf(t *testing.T) {
	l := []api.Mail{mail("c", 3, "", "x"), mail("b", 2, "", ""), mail("a", 1, "", "x")}
	for id, want := range map[string]int{"a": 0, "b": 1, "c": 0} {
		n, e := thread.ThreadOf(l, 0, id)
		is(t, []any{n, e}, []any{want, api.OK})
	}
	for _, id := range []string{"", "x", "d"} {
		n, e := thread.ThreadOf(l, 0, id)
		fails(t, e, api.ErrNone, n)
	}
	n, e := thread.ThreadOf(nil, 0, "a")
	fails(t, e, api.ErrNone, n)
}

// related says whether two letters are of one conversation by themselves.
func related(t *testing.T, a, b api.Mail, within int) bool {
	t.Helper()
	for _, id := range append([]string{a.Id}, a.Refs...) {
		if id == b.Id || slices.Contains(b.Refs, id) {
			return true
		}
	}
	one, marks := thread.Subject(a.Subject)
	two, more := thread.Subject(b.Subject)
	both, e := thread.Parties(a)
	is(t, e, api.OK)
	others, e := thread.Parties(b)
	is(t, e, api.OK)
	shared := slices.ContainsFunc(both, func(mail string) bool { return slices.Contains(others, mail) })
	return one == two && one != "" && marks+more > 0 && shared && max(a.At-b.At, b.At-a.At) <= within
}

// naiveThreads are the Ids of the threads, by what the chapter says of two letters and a third one.
func naiveThreads(t *testing.T, l []api.Mail, within int) []string {
	l = byTime(l)
	group := make([]int, len(l))
	for i := range l {
		group[i] = i
	}
	for changed := true; changed; {
		changed = false
		for i := range l {
			for j := range i {
				if group[i] != group[j] && related(t, l[i], l[j], within) {
					group[i], group[j] = min(group[i], group[j]), min(group[i], group[j])
					changed = true
				}
			}
		}
	}
	var all []string
	for i := range l {
		var ids []string
		for j := range l {
			if group[j] == i {
				ids = append(ids, l[j].Id)
			}
		}
		if ids != nil {
			all = append(all, strings.Join(ids, " "))
		}
	}
	return all
}

// P2.9: threads do not depend on the order of letters, and with a letter more what was together stays together.
func TestThreadsOfAnything(t *testing.T) {
	r := rand.New(rand.NewPCG(2, 9))
	sizes := map[int]int{}
	for range 5_000 {
		l := randomLetters(r)
		within := r.IntN(30)
		threads := mustThreads(t, l, within)
		sizes[len(threads)]++
		is(t, idsOf(threads), naiveThreads(t, l, within))
		is(t, mustThreads(t, shuffled(r, l), within), threads)
		for n, x := range threads {
			for _, id := range x.Ids {
				got, e := thread.ThreadOf(l, within, id)
				is(t, []any{got, e}, []any{n, api.OK})
			}
		}
		if len(l) == 0 {
			continue
		}
		for _, x := range mustThreads(t, l[1:], within) {
			first, _ := thread.ThreadOf(l, within, x.Ids[0])
			for _, id := range x.Ids {
				n, _ := thread.ThreadOf(l, within, id)
				is(t, n, first)
			}
		}
	}
	for many := range 5 {
		if sizes[many] < 100 {
			t.Errorf("%d threads: only %d times", many, sizes[many])
		}
	}
}

// P2.9, Z1: the largest lists.
func TestThreadsLargest(t *testing.T) {
	l := letters(api.MaxItems)
	for i := range l {
		l[i].To, l[i].Cc = addresses("x", api.MaxParties/2), addresses("y", api.MaxParties/2)
		l[i].Subject = "Re: S"
	}
	threads := mustThreads(t, l, 1)
	is(t, []int{len(threads), len(threads[0].Ids), len(threads[0].Parties)}, []int{1, api.MaxItems, 1 + api.MaxParties})
	threads = mustThreads(t, l, 0)
	is(t, len(threads), api.MaxItems)
}
