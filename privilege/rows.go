package privilege

import (
	"paperchase/api"
	"paperchase/sets"
	"paperchase/shape"
)

const maxAbout = 300 // bytes

// callWord returns the word of the kind of a call that is logged; empty for others.
func callWord(kind int) string {
	switch kind {
	case api.CallFull:
		return "full"
	case api.CallPart:
		return "part"
	}
	return ""
}

// CheckRows validates the rows of a log.
func CheckRows(l []api.LogRow) api.Errno {
	if len(l) > api.MaxItems {
		return api.ErrLarge
	}
	seen := map[string]bool{}
	for i, r := range l {
		switch {
		case r.No != i+1:
			return api.ErrArg
		case !shape.MessageId(r.Id):
			return api.ErrForm
		case seen[r.Id]:
			return api.ErrTwice
		}
		seen[r.Id] = true
		if e := checkRest(r); e != api.OK {
			return e
		}
	}
	return api.OK
}

// checkRest validates what does not depend on the rows before.
func checkRest(r api.LogRow) api.Errno {
	switch {
	case !shape.Moment(r.At):
		return api.ErrArg
	case !shape.Address(r.From):
		return api.ErrForm
	case len(r.To) > api.MaxParties:
		return api.ErrLarge
	}
	if e := sets.Rising(r.To, shape.Address, api.ErrForm); e != api.OK {
		return e
	}
	switch {
	case callWord(r.Kind) == "":
		return api.ErrKind
	case r.About == "" || len(r.About) > maxAbout || !shape.Plain(r.About):
		return api.ErrForm
	case !isCount(r.Kind, r.Spans):
		return api.ErrArg
	}
	return api.OK
}

// isCount says whether a row of a kind can have so many spans.
func isCount(kind, spans int) bool {
	if kind == api.CallFull {
		return spans == 0
	}
	return 1 <= spans && spans <= api.MaxSpans
}
