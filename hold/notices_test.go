package hold_test

import (
	"math"
	"math/rand/v2"
	"slices"
	"testing"

	"paperchase/api"
	"paperchase/hold"
)

// cases is a hold of two custodians, and one of all that ends.
func cases() []api.Hold {
	return []api.Hold{of(whole("case", 10), "ann bob"), released(whole("deal", 20), 100)}
}

func notice(at int, what int, key, who string) api.Notice {
	return api.Notice{At: at, Hold: key, Custodian: who, What: what}
}

// numbered returns notices with their Nos.
func numbered(l ...api.Notice) []api.Notice {
	for i := range l {
		l[i].No = i + 1
	}
	return l
}

func notices() []api.Notice {
	return numbered(
		notice(10, api.NoticeSent, "case", "bob"),
		notice(30, api.NoticeSent, "deal", "zed"),
		notice(30, api.NoticeSent, "deal", "ann"),
		notice(40, api.NoticeAnswered, "deal", "ann"),
		notice(40, api.NoticeRemind, "case", "bob"),
		notice(99, api.NoticeRemind, "deal", "zed"),
		notice(120, api.NoticeAnswered, "deal", "zed"),
		notice(120, api.NoticeOver, "deal", "ann"),
		notice(120, api.NoticeAnswered, "case", "bob"),
	)
}

// manyNotices is a hold and many notices of it.
func manyNotices(many int) ([]api.Hold, []api.Notice) {
	var l []api.Notice
	for i := range many {
		l = append(l, notice(5, api.NoticeSent, "case", name("p", i)))
	}
	return []api.Hold{whole("case", 5)}, numbered(l...)
}

// P5.5
func TestCheckNotices(t *testing.T) {
	is(t, hold.CheckNotices(nil, nil), api.OK)
	is(t, hold.CheckNotices(cases(), nil), api.OK)
	is(t, hold.CheckNotices(cases(), notices()), api.OK)
	h, l := manyNotices(api.MaxNotices)
	is(t, hold.CheckNotices(h, l), api.OK)
	h, l = manyNotices(api.MaxNotices + 1)
	is(t, hold.CheckNotices(h, l), api.ErrLarge)
	is(t, hold.CheckNotices(nil, l), api.ErrLarge)
	for _, c := range []struct {
		e      api.Errno
		at     int
		change func(n *api.Notice)
	}{
		{api.ErrArg, 0, func(n *api.Notice) { n.No = 0 }},
		{api.ErrArg, 0, func(n *api.Notice) { n.No = 2 }},
		{api.ErrArg, 1, func(n *api.Notice) { n.No = math.MaxInt }},
		{api.ErrArg, 1, func(n *api.Notice) { n.No = math.MinInt }},
		{api.ErrArg, 0, func(n *api.Notice) { n.At = -1 }},
		{api.ErrArg, 8, func(n *api.Notice) { n.At = api.End }},
		{api.ErrArg, 8, func(n *api.Notice) { n.At = math.MinInt }},
		{api.ErrOrder, 1, func(n *api.Notice) { n.At = 9 }},
		{api.ErrOrder, 8, func(n *api.Notice) { n.At = 0 }},
		{api.ErrNone, 0, func(n *api.Notice) { n.Hold = "" }},
		{api.ErrNone, 0, func(n *api.Notice) { n.Hold = "cas" }},
		{api.ErrNone, 1, func(n *api.Notice) { n.Hold = "Deal" }},
		{api.ErrName, 1, func(n *api.Notice) { n.Custodian = "" }},
		{api.ErrName, 0, func(n *api.Notice) { n.Custodian = "Bob" }},
		{api.ErrKind, 0, func(n *api.Notice) { n.What = 0 }},
		{api.ErrKind, 1, func(n *api.Notice) { n.What = 5 }},
		{api.ErrKind, 1, func(n *api.Notice) { n.What = -1 }},
		{api.ErrRule, 0, func(n *api.Notice) { n.Custodian = "zed" }},
		{api.ErrRule, 4, func(n *api.Notice) { n.Custodian = "ab" }},
		{api.ErrState, 0, func(n *api.Notice) { n.At = 9 }},                                          // the hold is not open yet
		{api.ErrState, 0, func(n *api.Notice) { n.What = api.NoticeAnswered }},                       // not sent
		{api.ErrState, 0, func(n *api.Notice) { n.What = api.NoticeRemind }},                         // likewise
		{api.ErrState, 0, func(n *api.Notice) { n.What = api.NoticeOver }},                           // likewise
		{api.ErrState, 3, func(n *api.Notice) { n.What = api.NoticeSent }},                           // sent before
		{api.ErrState, 3, func(n *api.Notice) { n.What = api.NoticeOver }},                           // not yet released
		{api.ErrState, 4, func(n *api.Notice) { n.What = api.NoticeOver }},                           // not released at all
		{api.ErrState, 4, func(n *api.Notice) { n.Custodian = "ann" }},                               // not sent to her
		{api.ErrState, 4, func(n *api.Notice) { n.Hold = "deal" }},                                   // not sent for this one
		{api.ErrState, 5, func(n *api.Notice) { n.Custodian = "ann" }},                               // she answered
		{api.ErrState, 5, func(n *api.Notice) { n.At = 100 }},                                        // no longer open
		{api.ErrState, 8, func(n *api.Notice) { n.Hold, n.Custodian = "deal", "ann" }},               // she was told that it is over
		{api.ErrState, 8, func(n *api.Notice) { *n = notice(120, api.NoticeOver, "deal", "ann") }},   // likewise
		{api.ErrState, 8, func(n *api.Notice) { *n = notice(120, api.NoticeRemind, "deal", "ann") }}, // likewise
		{api.ErrState, 8, func(n *api.Notice) { *n = notice(120, api.NoticeSent, "deal", "ann") }},   // likewise
		{api.ErrState, 8, func(n *api.Notice) { *n = notice(120, api.NoticeSent, "deal", "cid") }},   // no longer open
		{api.ErrState, 8, func(n *api.Notice) { *n = notice(120, api.NoticeOver, "deal", "cid") }},   // not sent
		{api.ErrState, 8, func(n *api.Notice) { *n = notice(120, api.NoticeAnswered, "deal", "cid") }},
	} {
		l := notices()
		c.change(&l[c.at])
		if l[c.at].No == 0 && c.e != api.ErrArg {
			l[c.at].No = c.at + 1
		}
		if e := hold.CheckNotices(cases(), l); e != c.e {
			t.Errorf("%+v: %d, want %d", l[c.at], e, c.e)
		}
	}
}

// P5.5: what can be sent just in time, and more than once.
func TestCheckNoticesBounds(t *testing.T) {
	sent := notice(20, api.NoticeSent, "deal", "ann")
	for _, l := range [][]api.Notice{
		{notice(99, api.NoticeSent, "deal", "ann"), notice(99, api.NoticeRemind, "deal", "ann"), notice(99, api.NoticeRemind, "deal", "ann")},
		{sent, notice(100, api.NoticeOver, "deal", "ann")},
		{sent, notice(20, api.NoticeAnswered, "deal", "ann"), notice(99, api.NoticeAnswered, "deal", "ann"), notice(200, api.NoticeAnswered, "deal", "ann"), notice(api.End-1, api.NoticeOver, "deal", "ann")},
		{sent, notice(20, api.NoticeSent, "deal", "bob"), notice(20, api.NoticeSent, "case", "ann")},
	} {
		is(t, hold.CheckNotices(cases(), numbered(l...)), api.OK)
	}
}

// P5.5: of several errors the first one of the list, notice by notice.
func TestCheckNoticesOrder(t *testing.T) {
	n := api.Notice{No: 7, At: -1, Hold: "cas", Custodian: "Z", What: 9}
	h := cases()
	h[0].Key = "Case"
	for _, s := range []step{
		{api.ErrName, func() {}},
		{api.ErrArg, func() { h[0].Key = "case" }},
		{api.ErrArg, func() { n.No = 2 }},
		{api.ErrOrder, func() { n.At = 15 }},
		{api.ErrNone, func() { n.At = 16 }},
		{api.ErrName, func() { n.Hold = "case" }},
		{api.ErrKind, func() { n.Custodian = "zed" }},
		{api.ErrRule, func() { n.What = api.NoticeRemind }},
		{api.ErrState, func() { n.Custodian = "bob" }},
		{api.ErrArg, func() { n.Custodian = "ann" }},
	} {
		s.mend()
		is(t, hold.CheckNotices(h, []api.Notice{{No: 1, At: 16, Hold: "case", Custodian: "ann", What: api.NoticeSent}, n, {}}), s.e)
	}
}

// badNotices are lists with the errors of CheckNotices for cases.
func badNotices() map[api.Errno][]api.Notice {
	right := notice(30, api.NoticeSent, "deal", "ann")
	return map[api.Errno][]api.Notice{
		api.ErrLarge: make([]api.Notice, api.MaxNotices+1),
		api.ErrArg:   {right},
		api.ErrOrder: numbered(right, notice(29, api.NoticeSent, "deal", "bob")),
		api.ErrNone:  numbered(notice(30, api.NoticeSent, "", "ann")),
		api.ErrName:  numbered(notice(30, api.NoticeSent, "deal", "")),
		api.ErrKind:  numbered(notice(30, 5, "deal", "ann")),
		api.ErrRule:  numbered(notice(30, api.NoticeSent, "case", "zed")),
		api.ErrState: numbered(right, right),
	}
}

// eachBadNotices calls a function with holds and notices that CheckNotices does not accept.
func eachBadNotices(t *testing.T, call func(h []api.Hold, l []api.Notice) (api.Errno, []any)) {
	t.Helper()
	eachBadHolds(t, func(h []api.Hold) (api.Errno, []any) { return call(h, make([]api.Notice, 1)) })
	for want, l := range badNotices() {
		is(t, hold.CheckNotices(cases(), l), want)
		e, results := call(cases(), l)
		fails(t, e, want, results...)
	}
}

// P5.7
func TestAnswers(t *testing.T) {
	for _, c := range []struct {
		l         []api.Notice
		key       string
		told, got int
	}{
		{nil, "case", 0, 0},
		{notices(), "case", 1, 1},
		{notices(), "deal", 2, 2},
		{notices()[:4], "deal", 2, 1},
		{notices()[:3], "deal", 2, 0},
		{notices()[:6], "case", 1, 0},
		{numbered(notice(30, api.NoticeSent, "deal", "ann"), notice(30, api.NoticeAnswered, "deal", "ann"), notice(31, api.NoticeAnswered, "deal", "ann")), "deal", 1, 1},
	} {
		told, got, e := hold.Answers(cases(), c.l, c.key)
		is(t, []any{told, got, e}, []any{c.told, c.got, api.OK})
	}
	for _, key := range []string{"", "cas", "zz"} {
		told, got, e := hold.Answers(cases(), notices(), key)
		fails(t, e, api.ErrNone, told, got)
	}
	eachBadNotices(t, func(h []api.Hold, l []api.Notice) (api.Errno, []any) {
		told, got, e := hold.Answers(h, l, "?")
		return e, []any{told, got}
	})
}

// P5.7: ordered by At, Hold, Custodian, What; what is equal but for No is there once.
func TestMerge(t *testing.T) {
	l := []api.Notice{
		notice(-5, 9, "z", "z"), notice(3, 1, "b", "b"), notice(7, 1, "a", "b"), notice(7, 1, "b", "a"), notice(7, 2, "b", "a"), notice(7, 1, "b", "b"), notice(8, -1, "", ""),
	}
	mixed := []api.Notice{l[6], l[2], l[4], l[2], l[0]}
	other := []api.Notice{l[5], l[1], l[4], l[3], l[3]}
	for i := range mixed {
		mixed[i].No, other[i].No = 4*i, math.MaxInt-i
	}
	got, e := hold.Merge(mixed, other)
	gives(t, got, e, numbered(l...))
	got, e = hold.Merge(nil, nil)
	gives(t, got, e, []api.Notice{})
	got, e = hold.Merge(nil, notices())
	var want []api.Notice
	for _, i := range []int{0, 2, 1, 4, 3, 5, 8, 7, 6} {
		want = append(want, notices()[i])
	}
	gives(t, got, e, numbered(want...))
}

// P5.7
func TestMergeBounds(t *testing.T) {
	_, most := manyNotices(api.MaxNotices)
	got, e := hold.Merge(most, most)
	gives(t, got, e, most)
	got, e = hold.Merge(most[:2000], most[2000:])
	gives(t, got, e, most)
	got, e = hold.Merge(most, []api.Notice{notice(5, api.NoticeRemind, "case", "a")})
	fails(t, e, api.ErrFull, got)
	got, e = hold.Merge(make([]api.Notice, api.MaxNotices+1), nil)
	fails(t, e, api.ErrLarge, got)
	got, e = hold.Merge(nil, make([]api.Notice, api.MaxNotices+1))
	fails(t, e, api.ErrLarge, got)
}

// P5.7, Z2
func TestMergeIsNew(t *testing.T) {
	a, b := notices(), notices()
	long := append(slices.Clone(a), api.Notice{No: -1})
	got, _ := hold.Merge(long[:len(a)], nil)
	got[0].Hold = "x"
	_ = append(got, api.Notice{})
	got, _ = hold.Merge(nil, b[4:])
	got[0].Hold = "x"
	is(t, long[:len(a)], a)
	is(t, long[len(a)], api.Notice{No: -1})
	is(t, b, notices())
}

// P5.7: whichever list comes first.
func TestMergeRandom(t *testing.T) {
	r := rand.New(rand.NewPCG(5, 7))
	some := func() []api.Notice {
		var l []api.Notice
		for range r.IntN(6) {
			n := notice(r.IntN(2), r.IntN(2), pick(r, "a", "b"), pick(r, "a", "b"))
			n.No = r.IntN(9)
			l = append(l, n)
		}
		return l
	}
	for range 2_000 {
		a, b := some(), some()
		one, e := hold.Merge(a, b)
		other, e2 := hold.Merge(b, a)
		is(t, []any{one, e, e2}, []any{other, api.OK, api.OK})
		there := map[api.Notice]bool{}
		for _, n := range slices.Concat(a, b) {
			n.No = 0
			there[n] = true
		}
		is(t, len(one), len(there))
		for i, n := range one {
			is(t, n.No, i+1)
			n.No = 0
			is(t, there[n], true)
		}
	}
}

// canSend is what the document says of when a notice can be sent, word by word.
func canSend(h []api.Hold, before []api.Notice, n api.Notice) bool {
	one := h[slices.IndexFunc(h, func(x api.Hold) bool { return x.Key == n.Hold })]
	was := func(what int) bool {
		return slices.ContainsFunc(before, func(x api.Notice) bool {
			return x.Hold == n.Hold && x.Custodian == n.Custodian && x.What == what
		})
	}
	switch n.What {
	case api.NoticeSent:
		if was(api.NoticeSent) || !isOpen(one, n.At) {
			return false
		}
	case api.NoticeOver:
		if was(api.NoticeOver) || !was(api.NoticeSent) || one.Released == -1 || n.At < one.Released {
			return false
		}
	default:
		if !was(api.NoticeSent) || was(api.NoticeOver) {
			return false
		}
		if n.What == api.NoticeRemind && (was(api.NoticeAnswered) || !isOpen(one, n.At)) {
			return false
		}
	}
	return true
}

// randomNotices returns holds and right notices of them; it calls a function with each notice that is tried.
func randomNotices(r *rand.Rand, tried func(h []api.Hold, l []api.Notice, n api.Notice)) ([]api.Hold, []api.Notice) {
	h := randomHolds(r, 3)
	for i := range h {
		h[i].Custodians = some(r, "ann", "bob")
	}
	var l []api.Notice
	var moments []int
	for range 12 {
		moments = append(moments, randomMoment(r))
	}
	slices.Sort(moments)
	for _, at := range moments {
		if len(h) == 0 {
			break
		}
		n := api.Notice{No: len(l) + 1, At: at, Hold: h[r.IntN(len(h))].Key, Custodian: pick(r, "ann", "bob"), What: pick(r, 1, 1, 2, 3, 3, 4)}
		tried(h, l, n)
		if more := append(slices.Clone(l), n); hold.CheckNotices(h, more) == api.OK {
			l = more
		}
	}
	return h, l
}

// P5.5: what can be sent is as the document says, word by word.
func TestCheckNoticesRandom(t *testing.T) {
	r := rand.New(rand.NewPCG(5, 5))
	many := map[api.Errno]int{}
	for range 3_000 {
		randomNotices(r, func(h []api.Hold, l []api.Notice, n api.Notice) {
			one := h[slices.IndexFunc(h, func(x api.Hold) bool { return x.Key == n.Hold })]
			want := api.OK
			if !contains(one.Custodians, n.Custodian) {
				want = api.ErrRule
			} else if !canSend(h, l, n) {
				want = api.ErrState
			}
			is(t, hold.CheckNotices(h, append(slices.Clone(l), n)), want)
			many[want]++
		})
	}
	for _, e := range []api.Errno{api.OK, api.ErrRule, api.ErrState} {
		if many[e] < 1_000 {
			t.Errorf("only %d with error %d", many[e], e)
		}
	}
}
