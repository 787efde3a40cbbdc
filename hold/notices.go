package hold

import (
	"cmp"
	"slices"
	"strings"

	"paperchase/api"
	"paperchase/sets"
	"paperchase/shape"
)

// record is what notices a custodian has of a hold.
type record struct {
	sent, answered, over bool
	reminds              int
	last                 int // At of the last NoticeSent or NoticeRemind
}

// records are those of custodians, by the keys of holds.
type records map[string]map[string]record

// add adds a notice that can be sent.
func (r records) add(n api.Notice) {
	if r[n.Hold] == nil {
		r[n.Hold] = map[string]record{}
	}
	one := r[n.Hold][n.Custodian]
	switch n.What {
	case api.NoticeSent:
		one.sent, one.last = true, n.At
	case api.NoticeAnswered:
		one.answered = true
	case api.NoticeRemind:
		one.reminds, one.last = one.reminds+1, n.At
	case api.NoticeOver:
		one.over = true
	}
	r[n.Hold][n.Custodian] = one
}

// canSend says whether a custodian with a record can have a further notice of a hold.
func (r record) canSend(h api.Hold, n api.Notice) bool {
	switch n.What {
	case api.NoticeSent:
		return !r.sent && isOpen(h, n.At)
	case api.NoticeAnswered:
		return r.sent && !r.over
	case api.NoticeRemind:
		return r.sent && !r.over && !r.answered && isOpen(h, n.At)
	}
	return !r.over && r.sent && isReleased(h, n.At)
}

func isNotice(what int) bool {
	switch what {
	case api.NoticeSent, api.NoticeAnswered, api.NoticeRemind, api.NoticeOver:
		return true
	}
	return false
}

// CheckNotices validates notices.
func CheckNotices(h []api.Hold, l []api.Notice) api.Errno {
	if e := Check(h); e != api.OK {
		return e
	}
	if len(l) > api.MaxNotices {
		return api.ErrLarge
	}
	sent := records{}
	for i, n := range l {
		if n.No != i+1 || !shape.Moment(n.At) {
			return api.ErrArg
		}
		if i > 0 && n.At < l[i-1].At {
			return api.ErrOrder
		}
		if e := checkNotice(h, n, sent); e != api.OK {
			return e
		}
		sent.add(n)
	}
	return api.OK
}

// checkNotice validates whom a notice is for, and what it is, after those that are sent.
func checkNotice(holds []api.Hold, n api.Notice, sent records) api.Errno {
	i, ok := find(holds, n.Hold)
	switch {
	case !ok:
		return api.ErrNone
	case !shape.Key(n.Custodian):
		return api.ErrName
	case !isNotice(n.What):
		return api.ErrKind
	case !sets.Admits(holds[i].Custodians, n.Custodian):
		return api.ErrRule
	case !sent[n.Hold][n.Custodian].canSend(holds[i], n):
		return api.ErrState
	}
	return api.OK
}

// Answers returns how many custodians were told of a hold, and how many answered.
func Answers(h []api.Hold, l []api.Notice, key string) (int, int, api.Errno) {
	if e := CheckNotices(h, l); e != api.OK {
		return 0, 0, e
	}
	if _, ok := find(h, key); !ok {
		return 0, 0, api.ErrNone
	}
	told, answered := 0, 0
	for _, r := range recordsAt(l, api.End)[key] {
		if r.sent {
			told++
		}
		if r.answered {
			answered++
		}
	}
	return told, answered, api.OK
}

// recordsAt returns the records of right notices until a moment.
func recordsAt(l []api.Notice, at int) records {
	r := records{}
	for _, n := range l {
		if n.At <= at {
			r.add(n)
		}
	}
	return r
}

// Merge returns the notices of two lists.
func Merge(a, b []api.Notice) ([]api.Notice, api.Errno) {
	if len(a) > api.MaxNotices || len(b) > api.MaxNotices {
		return nil, api.ErrLarge
	}
	l := slices.Concat(a, b)
	slices.SortFunc(l, compare)
	l = slices.CompactFunc(l, func(x, y api.Notice) bool { return compare(x, y) == 0 })
	if len(l) > api.MaxNotices {
		return nil, api.ErrFull
	}
	for i := range l {
		l[i].No = i + 1
	}
	return l, api.OK
}

// compare compares notices by all but their Nos.
func compare(a, b api.Notice) int {
	return cmp.Or(cmp.Compare(a.At, b.At), strings.Compare(a.Hold, b.Hold), strings.Compare(a.Custodian, b.Custodian), cmp.Compare(a.What, b.What))
}
