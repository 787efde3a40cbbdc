package hold_test

import (
	"math"
	"math/rand/v2"
	"slices"
	"testing"

	"paperchase/api"
	"paperchase/hold"
)

var rules = api.NoticeRules{After: 10, Most: 2}

// expectStates checks the states of a hold, written as `ann 1 bob 2`.
func expectStates(t *testing.T, h []api.Hold, l []api.Notice, r api.NoticeRules, key string, at int, want string) {
	t.Helper()
	var states []api.State
	for i, word := range words(want) {
		if i%2 == 0 {
			states = append(states, api.State{Custodian: word})
		} else {
			states[i/2].State = int(word[0] - '0')
		}
	}
	got, e := hold.States(h, l, r, key, at)
	gives(t, got, e, states)
}

// P5.6
func TestStates(t *testing.T) {
	for _, c := range []struct {
		key  string
		at   int
		want string
	}{
		{"case", 0, "ann 0 bob 0"},
		{"case", 9, "ann 0 bob 0"},
		{"case", 10, "ann 1 bob 2"},
		{"case", 19, "ann 1 bob 2"},
		{"case", 20, "ann 1 bob 3"},
		{"case", 39, "ann 1 bob 3"},
		{"case", 40, "ann 1 bob 2"}, // reminded
		{"case", 49, "ann 1 bob 2"},
		{"case", 50, "ann 1 bob 3"},
		{"case", 119, "ann 1 bob 3"},
		{"case", 120, "ann 1 bob 5"},
		{"case", api.End - 1, "ann 1 bob 5"},
		{"deal", 29, ""}, // what comes later does not count
		{"deal", 30, "ann 2 zed 2"},
		{"deal", 39, "ann 2 zed 2"},
		{"deal", 40, "ann 5 zed 3"},
		{"deal", 99, "ann 5 zed 2"},
		{"deal", 100, "ann 6 zed 6"}, // released, also for who has answered
		{"deal", 119, "ann 6 zed 6"},
		{"deal", 120, "ann 7 zed 6"},
	} {
		expectStates(t, cases(), notices(), rules, c.key, c.at, c.want)
	}
	ended := []api.Hold{of(released(whole("case", 10), 20), "ann bob")}
	sent := numbered(notice(15, api.NoticeSent, "case", "bob"))
	expectStates(t, ended, sent, rules, "case", 19, "ann 1 bob 2")
	expectStates(t, ended, sent, rules, "case", 20, "ann 0 bob 6")
	expectStates(t, ended, nil, rules, "case", 15, "ann 1 bob 1")
	expectStates(t, ended, nil, rules, "case", 25, "ann 0 bob 0")
	expectStates(t, []api.Hold{whole("case", 0)}, nil, rules, "case", 5, "")
}

// P5.6: the bounds of the rules.
func TestStatesRules(t *testing.T) {
	h := []api.Hold{of(whole("case", 0), "ann")}
	l := numbered(notice(5, api.NoticeSent, "case", "ann"), notice(15, api.NoticeRemind, "case", "ann"), notice(15, api.NoticeRemind, "case", "ann"))
	for _, c := range []struct {
		many, after, most, at int
		want                  string
	}{
		{1, 1, 0, 5, "ann 2"},
		{1, 1, 0, 6, "ann 4"},
		{1, 1, 1, 6, "ann 3"},
		{1, 1, 100, 6, "ann 3"},
		{2, 10, 1, 24, "ann 2"},
		{2, 10, 1, 25, "ann 4"},
		{2, 10, 2, 25, "ann 3"},
		{3, 10, 2, 25, "ann 4"},
		{3, 10, 3, 25, "ann 3"},
		{3, 10, 0, 25, "ann 4"},
		{3, api.End, 100, api.End - 1, "ann 2"},
		{3, api.End - 16, 100, api.End - 1, "ann 3"},
		{3, api.End - 15, 100, api.End - 1, "ann 2"},
	} {
		expectStates(t, h, l[:c.many], api.NoticeRules{After: c.after, Most: c.most}, "case", c.at, c.want)
	}
}

func badRules() []api.NoticeRules {
	return []api.NoticeRules{
		{}, {After: 0, Most: 5}, {After: -1}, {After: api.End + 1}, {After: 5, Most: -1}, {After: 5, Most: 101},
		{After: math.MinInt}, {After: math.MaxInt}, {After: 5, Most: math.MinInt}, {After: 5, Most: math.MaxInt},
	}
}

// P5.6
func TestStatesErrors(t *testing.T) {
	for _, c := range []struct {
		e   api.Errno
		key string
		at  int
	}{
		{api.ErrNone, "", -1}, {api.ErrNone, "cas", 5}, {api.ErrNone, "zz", 5},
		{api.ErrArg, "case", -1}, {api.ErrArg, "deal", api.End}, {api.ErrArg, "deal", math.MinInt}, {api.ErrArg, "deal", math.MaxInt},
	} {
		got, e := hold.States(cases(), notices(), rules, c.key, c.at)
		fails(t, e, c.e, got)
	}
	for _, r := range badRules() {
		got, e := hold.States(cases(), notices(), r, "?", -1)
		fails(t, e, api.ErrArg, got)
		due, e := hold.Due(cases(), notices(), r, 500)
		fails(t, e, api.ErrArg, due)
	}
	eachBadNotices(t, func(h []api.Hold, l []api.Notice) (api.Errno, []any) {
		got, e := hold.States(h, l, api.NoticeRules{}, "?", -1)
		due, e2 := hold.Due(h, l, api.NoticeRules{}, -1)
		is(t, e2, e)
		return e, []any{got, due}
	})
}

// P5.6
func TestDue(t *testing.T) {
	sent := func(at int, key, who string) api.Notice { return notice(at, api.NoticeSent, key, who) }
	for _, c := range []struct {
		many, at int
		want     []api.Notice
	}{
		{0, 9, nil},
		{0, 10, []api.Notice{sent(10, "case", "ann"), sent(10, "case", "bob")}},
		{0, 50, []api.Notice{sent(50, "case", "ann"), sent(50, "case", "bob")}},
		{3, 30, []api.Notice{sent(30, "case", "ann"), notice(30, api.NoticeRemind, "case", "bob")}},
		{3, 99, []api.Notice{sent(99, "case", "ann"), notice(99, api.NoticeRemind, "case", "bob"), notice(99, api.NoticeRemind, "deal", "ann"), notice(99, api.NoticeRemind, "deal", "zed")}},
		{3, 100, []api.Notice{sent(100, "case", "ann"), notice(100, api.NoticeRemind, "case", "bob"), notice(100, api.NoticeOver, "deal", "ann"), notice(100, api.NoticeOver, "deal", "zed")}},
		{9, 120, []api.Notice{sent(120, "case", "ann"), notice(120, api.NoticeOver, "deal", "zed")}},
		{9, api.End - 1, []api.Notice{sent(api.End-1, "case", "ann"), notice(api.End-1, api.NoticeOver, "deal", "zed")}},
	} {
		l := notices()[:c.many]
		got, e := hold.Due(cases(), l, rules, c.at)
		gives(t, got, e, numbered(append(l, c.want...)...)[c.many:])
	}
	for _, bad := range []int{-1, 119, api.End, math.MinInt, math.MaxInt} {
		got, e := hold.Due(cases(), notices(), rules, bad)
		fails(t, e, api.ErrArg, got)
	}
	got, e := hold.Due(cases(), nil, rules, -1)
	fails(t, e, api.ErrArg, got)
	got, e = hold.Due(cases(), notices()[:1], rules, 9)
	fails(t, e, api.ErrArg, got)
	got, e = hold.Due(nil, nil, rules, 0)
	gives(t, got, e, []api.Notice{})
}

// P5.6: with those that are due there are at most MaxNotices.
func TestDueFull(t *testing.T) {
	h, l := manyNotices(api.MaxNotices)
	got, e := hold.Due(h, l, rules, 14)
	gives(t, got, e, []api.Notice{})
	got, e = hold.Due(h, l, rules, 15)
	fails(t, e, api.ErrFull, got)
	got, e = hold.Due(h, l[:api.MaxNotices/2], rules, 15)
	gives(t, len(got), e, api.MaxNotices/2)
	got, e = hold.Due(h, l[:api.MaxNotices/2+1], rules, 15)
	fails(t, e, api.ErrFull, got)
	h = manyHolds(api.MaxHolds)
	for i := range h {
		h[i].Custodians = names(api.MaxPeople)
	}
	got, e = hold.Due(h[:15], nil, rules, 15)
	gives(t, len(got), e, api.MaxNotices)
	got, e = hold.Due(h, nil, rules, 15)
	fails(t, e, api.ErrFull, got)
}

// Z2
func TestStatesKeep(t *testing.T) {
	fresh := func() []api.Notice { return append(notices(), notice(0, 9, "far", "far")) }
	keepsHolds(t, func(h []api.Hold) {
		long := append(slices.Clone(cases()), api.Hold{})
		l := fresh()
		hold.States(h, nil, rules, "case", 500)
		hold.Due(h, nil, rules, 500)
		hold.States(long[:2], l[:9], rules, "case", 500)
		due, _ := hold.Due(long[:2], l[:9], rules, 500)
		_ = append(due, api.Notice{})
		is(t, l, fresh())
		is(t, long, append(cases(), api.Hold{}))
	})
}

// stateOf is what the document says of the state of a custodian, word by word.
func stateOf(h api.Hold, l []api.Notice, r api.NoticeRules, who string, at int) int {
	reminds, last := 0, 0
	was := map[int]bool{}
	for _, n := range l {
		if n.At > at || n.Hold != h.Key || n.Custodian != who {
			continue
		}
		was[n.What] = true
		if n.What == api.NoticeRemind {
			reminds++
		}
		if n.What == api.NoticeSent || n.What == api.NoticeRemind {
			last = n.At
		}
	}
	if was[api.NoticeOver] {
		return api.HoldEnded
	}
	if was[api.NoticeSent] && h.Released != -1 && h.Released <= at {
		return api.HoldToEnd
	}
	if !isOpen(h, at) {
		return api.HoldNone
	}
	if !was[api.NoticeSent] {
		return api.HoldToSend
	}
	if was[api.NoticeAnswered] {
		return api.HoldAnswered
	}
	if at < last+r.After {
		return api.HoldSent
	}
	if reminds < r.Most {
		return api.HoldToRemind
	}
	return api.HoldLate
}

// P5.6: all is as the document says, word by word.
func TestStatesRandom(t *testing.T) {
	r := rand.New(rand.NewPCG(5, 6))
	many := map[int]int{}
	for range 3_000 {
		h, l := randomNotices(r, func([]api.Hold, []api.Notice, api.Notice) {})
		rules, at := api.NoticeRules{After: pick(r, 1, 2, api.DayLong, 2*api.DayLong), Most: r.IntN(3)}, randomMoment(r)
		for _, one := range h {
			people := slices.Clone(one.Custodians)
			told, answered := map[string]bool{}, map[string]bool{}
			for _, n := range l {
				if n.Hold == one.Key {
					told[n.Custodian] = true
					answered[n.Custodian] = answered[n.Custodian] || n.What == api.NoticeAnswered
					if n.At <= at {
						people = append(people, n.Custodian)
					}
				}
			}
			slices.Sort(people)
			var want []api.State
			for _, who := range slices.Compact(people) {
				want = append(want, api.State{Custodian: who, State: stateOf(one, l, rules, who, at)})
				many[want[len(want)-1].State]++
			}
			got, e := hold.States(h, l, rules, one.Key, at)
			gives(t, got, e, want)
			yes := 0
			for _, x := range answered {
				if x {
					yes++
				}
			}
			a, b, e := hold.Answers(h, l, one.Key)
			is(t, []any{a, b, e}, []any{len(told), yes, api.OK})
		}
	}
	for state := api.HoldNone; state <= api.HoldEnded; state++ {
		if many[state] < 20 {
			t.Errorf("only %d times state %d", many[state], state)
		}
	}
}

// P5.6: CheckNotices accepts what is due, and then nothing more is due at this moment.
func TestDueRandom(t *testing.T) {
	r := rand.New(rand.NewPCG(5, 8))
	many := map[int]int{}
	for range 3_000 {
		h, l := randomNotices(r, func([]api.Hold, []api.Notice, api.Notice) {})
		rules, at := api.NoticeRules{After: pick(r, 1, 2, api.DayLong), Most: r.IntN(3)}, randomMoment(r)
		l = slices.DeleteFunc(l, func(n api.Notice) bool { return n.At > at })
		due, e := hold.Due(h, l, rules, at)
		var want []api.Notice
		for _, one := range h {
			states, _ := hold.States(h, l, rules, one.Key, at)
			for _, s := range states {
				what, ok := map[int]int{api.HoldToSend: api.NoticeSent, api.HoldToRemind: api.NoticeRemind, api.HoldToEnd: api.NoticeOver}[s.State]
				if ok {
					want = append(want, api.Notice{No: len(l) + len(want) + 1, At: at, Hold: one.Key, Custodian: s.Custodian, What: what})
					many[what]++
				}
			}
		}
		gives(t, due, e, want)
		l = append(l, due...)
		is(t, hold.CheckNotices(h, l), api.OK)
		due, e = hold.Due(h, l, rules, at)
		gives(t, due, e, []api.Notice{})
	}
	for _, what := range []int{api.NoticeSent, api.NoticeRemind, api.NoticeOver} {
		if many[what] < 100 {
			t.Errorf("only %d notices %d", many[what], what)
		}
	}
}
