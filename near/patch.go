package near

import (
	"slices"

	"paperchase/api"
)

// Patch makes changes in a string.
func Patch(text string, l []api.WordChange) (string, api.Errno) {
	tokens, e := fewTokens(text)
	if e != api.OK {
		return "", e
	}
	if e := checkChanges(tokens, l); e != api.OK {
		return "", e
	}
	result := Join(replace(tokens, l, func(c api.WordChange) []string { return c.Add }))
	if len(result) > api.MaxBody {
		return "", api.ErrLarge
	}
	return result, api.OK
}

// checkChanges validates changes of tokens.
func checkChanges(tokens []string, l []api.WordChange) api.Errno {
	after := 0 // where the change before ends
	for i, c := range l {
		switch {
		case c.At < 0 || c.At > len(tokens):
			return api.ErrArg
		case i > 0 && c.At <= after:
			return api.ErrOrder
		case len(c.Drop) == 0 && len(c.Add) == 0:
			return api.ErrForm
		case !areTokens(c.Drop) || !areTokens(c.Add):
			return api.ErrForm
		case !beginsWith(tokens[c.At:], c.Drop):
			return api.ErrConflict
		}
		after = c.At + len(c.Drop)
	}
	return api.OK
}

func areTokens(l []string) bool {
	for _, s := range l {
		if !isToken(s) {
			return false
		}
	}
	return true
}

func beginsWith(l, start []string) bool {
	return len(l) >= len(start) && slices.Equal(l[:len(start)], start)
}

// replace makes right changes in tokens; instead returns what comes in the place of Drop.
func replace(tokens []string, l []api.WordChange, instead func(c api.WordChange) []string) []string {
	var result []string
	at := 0
	for _, c := range l {
		result = append(result, tokens[at:c.At]...)
		result = append(result, instead(c)...)
		at = c.At + len(c.Drop)
	}
	return append(result, tokens[at:]...)
}

// Turn returns the changes that lead back.
func Turn(a string, l []api.WordChange) ([]api.WordChange, api.Errno) {
	if _, e := Patch(a, l); e != api.OK {
		return nil, e
	}
	var back []api.WordChange
	more := 0 // tokens than before
	for _, c := range l {
		back = append(back, api.WordChange{At: c.At + more, Drop: slices.Clone(c.Add), Add: slices.Clone(c.Drop)})
		more += len(c.Add) - len(c.Drop)
	}
	return back, api.OK
}
