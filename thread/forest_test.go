package thread_test

import (
	"fmt"
	"math/rand/v2"
	"slices"
	"strings"
	"testing"

	"paperchase/api"
	"paperchase/thread"
)

// nodes reads words of ids: `a` is a missing one, `a<b` has the parent b, and `+` marks those that a letter has.
func nodes(s string) []api.Node {
	var l []api.Node
	for _, word := range words(s) {
		word, here := strings.CutPrefix(word, "+")
		id, parent, _ := strings.Cut(word, "<")
		l = append(l, api.Node{Id: id, Parent: parent, Here: here})
	}
	return l
}

// P2.8
func TestForest(t *testing.T) {
	for _, c := range []struct {
		letters []api.Mail
		want    string
	}{
		{nil, ""},
		{[]api.Mail{mail("a", 1, "", "")}, "+a"},
		{[]api.Mail{mail("c", 1, "", "a b")}, "a b<a +c<b"},
		{[]api.Mail{mail("b", 2, "", "a"), mail("a", 1, "", "")}, "+a +b<a"},
		// the last of its own Refs counts for a letter, whatever others say
		{[]api.Mail{mail("b", 2, "", "x"), mail("c", 1, "", "a b")}, "a +b<x +c<b x"},
		{[]api.Mail{mail("b", 2, "", ""), mail("c", 1, "", "a b")}, "a +b +c<b"},
		// the least letter that has it in another place than the first one
		{[]api.Mail{mail("c", 2, "", "x m"), mail("d", 1, "", "y m")}, "+c<m +d<m m<y x y"},
		{[]api.Mail{mail("d", 1, "", "y m"), mail("c", 1, "", "x m")}, "+c<m +d<m m<x x y"},
		{[]api.Mail{mail("c", 1, "", "m"), mail("d", 2, "", "y m z")}, "+c<m +d<z m<y y z<m"},
		// circles
		{[]api.Mail{mail("a", 1, "", "b"), mail("b", 2, "", "a")}, "+a +b<a"},
		{[]api.Mail{mail("b", 1, "", "c"), mail("c", 2, "", "d"), mail("d", 3, "", "b"), mail("a", 4, "", "d")}, "+a<d +b +c<d +d<b"},
		{[]api.Mail{mail("x", 1, "", "b a"), mail("y", 2, "", "a b")}, "a b<a +x<a +y<b"},
		{[]api.Mail{mail("b", 1, "", "a"), mail("c", 2, "", "b a"), mail("y", 1, "", "z"), mail("z", 1, "", "y")}, "a +b<a +c<a +y +z<y"},
	} {
		l, e := thread.Forest(c.letters)
		is(t, e, api.OK)
		is(t, l, nodes(c.want))
	}
	eachBadList(t, func(l []api.Mail) (any, api.Errno) { return thread.Forest(l) })
	keepsArguments(t, func(l []api.Mail) { thread.Forest(l) })
}

// P2.8
func TestMissing(t *testing.T) {
	for _, c := range []struct {
		letters []api.Mail
		want    string
	}{
		{nil, ""},
		{[]api.Mail{mail("a", 1, "", "")}, ""},
		{[]api.Mail{mail("c", 1, "", "z b"), mail("b", 1, "", "z a")}, "a z"},
	} {
		l, e := thread.Missing(c.letters)
		is(t, e, api.OK)
		is(t, l, words(c.want))
	}
	eachBadList(t, func(l []api.Mail) (any, api.Errno) { return thread.Missing(l) })
}

// P2.8
func TestChain(t *testing.T) {
	l := []api.Mail{mail("c", 1, "", "a b"), mail("d", 2, "", "c"), mail("e", 3, "", "x"), mail("p", 1, "", "r"), mail("q", 1, "", "p"), mail("r", 1, "", "q")}
	for id, want := range map[string]string{"a": "a", "b": "a b", "c": "a b c", "d": "a b c d", "e": "x e", "p": "p", "q": "p q", "r": "p q r"} {
		ids, e := thread.Chain(l, id)
		is(t, e, api.OK)
		is(t, ids, words(want))
	}
	for _, id := range []string{"", "f", "A", "<a>"} {
		ids, e := thread.Chain(l, id)
		fails(t, e, api.ErrNone, ids)
	}
	ids, e := thread.Chain(nil, "a")
	fails(t, e, api.ErrNone, ids)
	eachBadList(t, func(l []api.Mail) (any, api.Errno) { return thread.Chain(l, "") })
}

// parentOf says what the chapter says of the parent of an id, before circles.
func parentOf(l []api.Mail, id string) string {
	for _, m := range l {
		if m.Id == id {
			if len(m.Refs) == 0 {
				return ""
			}
			return m.Refs[len(m.Refs)-1]
		}
	}
	for _, m := range byTime(l) {
		if i := slices.Index(m.Refs, id); i > 0 {
			return m.Refs[i-1]
		}
	}
	return ""
}

// parents are those of all ids, without circles.
func parents(l []api.Mail) map[string]string {
	up := map[string]string{}
	for _, m := range l {
		for _, id := range append([]string{m.Id}, m.Refs...) {
			up[id] = parentOf(l, id)
		}
	}
	var cut []string
	for id := range up {
		least, at := id, up[id]
		for range up {
			if at == "" || at == id {
				break
			}
			least, at = min(least, at), up[at]
		}
		if at == id && least == id {
			cut = append(cut, id)
		}
	}
	for _, id := range cut {
		up[id] = ""
	}
	return up
}

// P2.8, against what the chapter says, word by word.
func TestForestOfAnything(t *testing.T) {
	r := rand.New(rand.NewPCG(2, 8))
	circles := 0
	for range 5_000 {
		l := randomLetters(r)
		up := parents(l)
		got, e := thread.Forest(l)
		is(t, e, api.OK)
		var missing []string
		for i, node := range got {
			here := slices.ContainsFunc(l, func(m api.Mail) bool { return m.Id == node.Id })
			is(t, node, api.Node{Id: node.Id, Parent: up[node.Id], Here: here})
			is(t, i > 0 && node.Id <= got[i-1].Id, false)
			if !here {
				missing = append(missing, node.Id)
			}
			if parentOf(l, node.Id) != node.Parent {
				circles++
			}
			chain, e := thread.Chain(l, node.Id)
			is(t, []any{e, chain[len(chain)-1], up[chain[0]]}, []any{api.OK, node.Id, ""})
			for i := 1; i < len(chain); i++ {
				is(t, up[chain[i]], chain[i-1])
			}
		}
		is(t, len(got), len(up))
		ids, e := thread.Missing(l)
		is(t, []any{fmt.Sprint(ids), e}, []any{fmt.Sprint(missing), api.OK})
		again, _ := thread.Forest(shuffled(r, l))
		is(t, again, got)
	}
	if circles < 100 {
		t.Errorf("only %d circles", circles)
	}
}

// ladder has MaxItems letters with MaxRefs Refs each, so that the parents of all ids, but for the first one, are in one row.
func ladder() []api.Mail {
	var l []api.Mail
	last := "start"
	for i := range api.MaxItems {
		refs := []string{last}
		for j := range api.MaxRefs - 1 {
			refs = append(refs, name("r"+name("", i), j))
		}
		m := mail(name("m", i), i, "Re: S", strings.Join(refs, " "))
		last = m.Id
		l = append(l, m)
	}
	return l
}

// P2.8, Z1: the largest lists.
func TestForestLargest(t *testing.T) {
	l := ladder()
	got, e := thread.Forest(l)
	is(t, []any{len(got), e}, []any{1 + api.MaxItems*api.MaxRefs, api.OK})
	chain, e := thread.Chain(l, l[len(l)-1].Id)
	is(t, []any{len(chain), e}, []any{len(got), api.OK})
	threads, e := thread.Threads(l, 0)
	is(t, []any{len(threads), e}, []any{1, api.OK})
	s, e := thread.Timeline(l, 0, 0)
	fails(t, e, api.ErrLarge, s)
	s, e = thread.Timeline(l[:13], 0, 0)
	is(t, []any{strings.Count(s, "\n"), e}, []any{13*(api.MaxRefs+1) - 12, api.OK})
}
