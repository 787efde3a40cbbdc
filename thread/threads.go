package thread

import (
	"slices"

	"paperchase/api"
)

// ties lead each letter to another one of its conversation; one of each conversation leads to itself.
type ties []int

func (t ties) root(i int) int {
	for t[i] != i {
		t[i] = t[t[i]]
		i = t[i]
	}
	return i
}

func (t ties) join(i, j int) {
	a, b := t.root(i), t.root(j)
	t[a] = b
}

// gather validates letters, and returns the numbers of those of each conversation, all in order.
func gather(l []api.Mail, within int) ([][]int, api.Errno) {
	if e := CheckMails(l); e != api.OK {
		return nil, e
	}
	if within < 0 || within > api.End {
		return nil, api.ErrArg
	}
	var t ties
	for i := range l {
		t = append(t, i)
	}
	order := inOrder(l)
	t.joinIds(l)
	t.joinSubjects(l, order, within)
	places := map[int]int{} // of conversations, by their roots
	var groups [][]int
	for _, i := range order {
		root := t.root(i)
		place, ok := places[root]
		if !ok {
			place = len(groups)
			places[root] = place
			groups = append(groups, nil)
		}
		groups[place] = append(groups[place], i)
	}
	return groups, api.OK
}

// joinIds joins letters that share an id.
func (t ties) joinIds(l []api.Mail) {
	first := map[string]int{}
	for i, m := range l {
		for _, id := range slices.Concat(m.Refs, []string{m.Id}) {
			if j, ok := first[id]; ok {
				t.join(i, j)
			} else {
				first[id] = i
			}
		}
	}
}

// topic is a normal subject that an address is concerned with.
type topic struct{ subject, mail string }

// joinSubjects joins letters that share a subject and an address. Of all letters with marks that are near enough to one, the nearest one before it and the nearest one after it suffice, as those farther away are near enough to these.
func (t ties) joinSubjects(l []api.Mail, order []int, within int) {
	marked := map[topic]int{} // the last letter with marks
	take := func(i int) {
		subject, marks := Subject(l[i].Subject)
		if subject == "" {
			return
		}
		for _, mail := range partiesOf(l[i]) {
			about := topic{subject, mail}
			if j, ok := marked[about]; ok && apart(l[i].At, l[j].At) <= within {
				t.join(i, j)
			}
			if marks > 0 {
				marked[about] = i
			}
		}
	}
	for _, i := range order {
		take(i)
	}
	clear(marked)
	for _, i := range slices.Backward(order) {
		take(i)
	}
}

func apart(a, b int) int { return max(a-b, b-a) }

// Threads puts letters into conversations.
func Threads(l []api.Mail, within int) ([]api.Thread, api.Errno) {
	groups, e := gather(l, within)
	if e != api.OK {
		return nil, e
	}
	var threads []api.Thread
	for _, group := range groups {
		threads = append(threads, threadOf(pick(l, group)))
	}
	return threads, api.OK
}

func pick(l []api.Mail, numbers []int) []api.Mail {
	var some []api.Mail
	for _, i := range numbers {
		some = append(some, l[i])
	}
	return some
}

// threadOf returns the conversation of letters that are in order.
func threadOf(l []api.Mail) api.Thread {
	subject, _ := Subject(l[0].Subject)
	t := api.Thread{Subject: subject, From: l[0].At, To: l[len(l)-1].At, Parties: partiesOf(l...)}
	for _, m := range l {
		t.Ids = append(t.Ids, m.Id)
	}
	return t
}

// ThreadOf returns the number of the thread of a letter.
func ThreadOf(l []api.Mail, within int, id string) (int, api.Errno) {
	groups, e := gather(l, within)
	if e != api.OK {
		return 0, e
	}
	for n, group := range groups {
		for _, i := range group {
			if l[i].Id == id {
				return n, api.OK
			}
		}
	}
	return 0, api.ErrNone
}
