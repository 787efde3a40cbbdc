package hold

import (
	"slices"

	"paperchase/api"
	"paperchase/shape"
)

// maxReminds is the greatest Most of rules.
const maxReminds = 100

// checkWith validates notices and rules.
func checkWith(h []api.Hold, l []api.Notice, r api.NoticeRules) api.Errno {
	if e := CheckNotices(h, l); e != api.OK {
		return e
	}
	if r.After < 1 || r.After > api.End || r.Most < 0 || r.Most > maxReminds {
		return api.ErrArg
	}
	return api.OK
}

// stateOf returns the state of a custodian with a record of a hold.
func stateOf(h api.Hold, one record, r api.NoticeRules, at int) int {
	switch {
	case one.over:
		return api.HoldEnded
	case one.sent && isReleased(h, at):
		return api.HoldToEnd
	case !isOpen(h, at):
		return api.HoldNone
	case !one.sent:
		return api.HoldToSend
	case one.answered:
		return api.HoldAnswered
	case at < one.last+r.After:
		return api.HoldSent
	case one.reminds < r.Most:
		return api.HoldToRemind
	}
	return api.HoldLate
}

// statesOf returns the states of all custodians of a hold, whose records are given.
func statesOf(h api.Hold, some map[string]record, r api.NoticeRules, at int) []api.State {
	people := slices.Clone(h.Custodians)
	for who := range some {
		people = append(people, who)
	}
	slices.Sort(people)
	var l []api.State
	for _, who := range slices.Compact(people) {
		l = append(l, api.State{Custodian: who, State: stateOf(h, some[who], r, at)})
	}
	return l
}

// States returns the states of custodians for a hold.
func States(h []api.Hold, l []api.Notice, r api.NoticeRules, key string, at int) ([]api.State, api.Errno) {
	if e := checkWith(h, l, r); e != api.OK {
		return nil, e
	}
	i, ok := find(h, key)
	if !ok {
		return nil, api.ErrNone
	}
	if !shape.Moment(at) {
		return nil, api.ErrArg
	}
	return statesOf(h[i], recordsAt(l, at)[key], r, at), api.OK
}

// noticeFor returns what notice is due in a state; false if none is.
func noticeFor(state int) (int, bool) {
	switch state {
	case api.HoldToSend:
		return api.NoticeSent, true
	case api.HoldToRemind:
		return api.NoticeRemind, true
	case api.HoldToEnd:
		return api.NoticeOver, true
	}
	return 0, false
}

// Due returns the notices that are due.
func Due(h []api.Hold, l []api.Notice, r api.NoticeRules, at int) ([]api.Notice, api.Errno) {
	if e := checkWith(h, l, r); e != api.OK {
		return nil, e
	}
	if !shape.Moment(at) || len(l) > 0 && at < l[len(l)-1].At {
		return nil, api.ErrArg
	}
	sent := recordsAt(l, at)
	var due []api.Notice
	for _, one := range h {
		for _, s := range statesOf(one, sent[one.Key], r, at) {
			if what, ok := noticeFor(s.State); ok {
				due = append(due, api.Notice{No: len(l) + len(due) + 1, At: at, Hold: one.Key, Custodian: s.Custodian, What: what})
			}
		}
	}
	if len(l)+len(due) > api.MaxNotices {
		return nil, api.ErrFull
	}
	return due, api.OK
}
