package sets

import "paperchase/api"

// Together makes one of spans that touch or overlap; they are in the order of From.
func Together(l []api.Span) []api.Span {
	var all []api.Span
	for _, s := range l {
		last := len(all) - 1
		if last >= 0 && s.From <= all[last].To {
			all[last].To = max(all[last].To, s.To)
		} else {
			all = append(all, s)
		}
	}
	return all
}
