package review

import (
	"maps"
	"slices"

	"paperchase/api"
	"paperchase/shape"
)

// look is a decision, and a second look at it by another reviewer.
type look struct{ first, second entry }

// looksAt returns the looks at a moment, by Item.
func looksAt(all []entry, at int) []look {
	seconds := latest(all, func(x entry) bool { return x.Second && x.At <= at })
	firsts := latest(all, func(x entry) bool {
		second, ok := seconds[x.Item]
		return ok && !x.Second && compareTime(x, second) < 0
	})
	var looks []look
	for _, item := range slices.Sorted(maps.Keys(firsts)) {
		k := look{firsts[item], seconds[item]}
		if k.first.Reviewer != k.second.Reviewer {
			looks = append(looks, k)
		}
	}
	return looks
}

// agrees says whether both decisions have the same value for a field.
func (k look) agrees(name string) bool {
	return slices.Equal(valueOf(k.first.Values, name), valueOf(k.second.Values, name))
}

// Clashes returns the fields for which second looks chose otherwise.
func Clashes(l api.Layout, d []api.Decision, at int) ([]api.Clash, api.Errno) {
	g, all, e := entriesAt(l, d, at)
	if e != api.OK {
		return nil, e
	}
	var clashes []api.Clash
	for _, k := range looksAt(all, at) {
		for _, f := range g.fields {
			if !k.agrees(f.Field) {
				clashes = append(clashes, api.Clash{Item: k.first.Item, Field: f.Field, First: k.first.Reviewer, Second: k.second.Reviewer})
			}
		}
	}
	return clashes, api.OK
}

// Scores returns how often second looks agreed with reviewers.
func Scores(l api.Layout, d []api.Decision, field string, at int) ([]api.Score, api.Errno) {
	g, all, e := entriesOf(l, d)
	if e != api.OK {
		return nil, e
	}
	if !g.hasField(field) {
		return nil, api.ErrNone
	}
	if !shape.Moment(at) {
		return nil, api.ErrArg
	}
	scores := map[string]api.Score{}
	for _, k := range looksAt(all, at) {
		s := scores[k.first.Reviewer]
		s.Reviewer = k.first.Reviewer
		s.Looked++
		if k.agrees(field) {
			s.Same++
		}
		scores[s.Reviewer] = s
	}
	var sorted []api.Score
	for _, who := range slices.Sorted(maps.Keys(scores)) {
		sorted = append(sorted, scores[who])
	}
	return sorted, api.OK
}
