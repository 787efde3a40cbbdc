package thread

import (
	"slices"

	"paperchase/api"
)

// numberer gives numbers to paragraphs, equal ones to equal paragraphs.
type numberer map[string]int

// numbers returns those of the paragraphs of a body, rising.
func (n numberer) numbers(body string) []int {
	var l []int
	for _, paragraph := range paragraphsOf(body) {
		number, ok := n[paragraph]
		if !ok {
			number = len(n)
			n[paragraph] = number
		}
		l = append(l, number)
	}
	slices.Sort(l)
	return l
}

// among says whether all of some numbers are among others; both lists rise.
func among(some, others []int) bool {
	at := 0
	for _, number := range some {
		for at < len(others) && others[at] < number {
			at++
		}
		if at == len(others) || others[at] != number {
			return false
		}
	}
	return true
}

// Covers reports whether a letter covers another one.
func Covers(a, b api.Mail) (bool, api.Errno) {
	for _, m := range []api.Mail{a, b} {
		if e := Check(m); e != api.OK {
			return false, e
		}
	}
	n := numberer{}
	own := n.numbers(a.Body)
	return among(n.numbers(b.Body), own), api.OK
}

// Inclusive returns the letters that are needed.
func Inclusive(l []api.Mail, within int) ([]string, api.Errno) {
	groups, e := gather(l, within)
	if e != api.OK {
		return nil, e
	}
	n := numberer{}
	var ids []string
	for _, group := range groups {
		var sets [][]int
		for _, i := range group {
			sets = append(sets, n.numbers(l[i].Body))
		}
		for place, i := range group {
			if needed(sets, place) {
				ids = append(ids, l[i].Id)
			}
		}
	}
	slices.Sort(ids)
	return ids, api.OK
}

// needed says whether the letter at a place of a conversation is inclusive; sets are the paragraphs of its letters, in order.
func needed(sets [][]int, place int) bool {
	own := sets[place]
	for i, other := range sets {
		// One that has as many paragraphs and covers it has the same ones.
		prior := len(other) > len(own) || len(other) == len(own) && i < place
		if prior && among(own, other) {
			return false
		}
	}
	return true
}
