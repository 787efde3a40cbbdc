package thread

import (
	"slices"

	"paperchase/api"
	"paperchase/sets"
)

// among says whether all of some numbers are among others; both lists rise.
func among(some, others []int) bool {
	at := 0
	for _, number := range some {
		for at < len(others) && others[at] < number {
			at++
		}
		if at == len(others) || others[at] != number {
			return false
		}
	}
	return true
}

// Covers reports whether a letter covers another one.
func Covers(a, b api.Mail) (bool, api.Errno) {
	for _, m := range []api.Mail{a, b} {
		if e := Check(m); e != api.OK {
			return false, e
		}
	}
	n := sets.Numberer{}
	own := n.Numbers(paragraphsOf(a.Body))
	return among(n.Numbers(paragraphsOf(b.Body)), own), api.OK
}

// Inclusive returns the letters that are needed.
func Inclusive(l []api.Mail, within int) ([]string, api.Errno) {
	groups, e := gather(l, within)
	if e != api.OK {
		return nil, e
	}
	n := sets.Numberer{}
	var ids []string
	for _, group := range groups {
		var said [][]int
		for _, i := range group {
			said = append(said, n.Numbers(paragraphsOf(l[i].Body)))
		}
		for place, i := range group {
			if needed(said, place) {
				ids = append(ids, l[i].Id)
			}
		}
	}
	slices.Sort(ids)
	return ids, api.OK
}

// needed says whether the letter at a place of a conversation is inclusive; said are the paragraphs of its letters, in order.
func needed(said [][]int, place int) bool {
	own := said[place]
	for i, other := range said {
		// One that has as many paragraphs and covers it has the same ones.
		prior := len(other) > len(own) || len(other) == len(own) && i < place
		if prior && among(own, other) {
			return false
		}
	}
	return true
}
