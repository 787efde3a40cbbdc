package near

import (
	"slices"

	"paperchase/api"
)

// kept is a token of a list and an equal one of another list.
type kept struct{ first, second int }

// keep returns the tokens that are kept of two lists.
func keep(a, b []string) []kept {
	most := mostKept(a, b)
	var l []kept
	j := 0
	for i, token := range a {
		// The next equal token leaves the most to choose from, so that a later one is never better.
		skip := slices.Index(b[j:], token)
		if skip >= 0 && most[i][j] == 1+most[i+1][j+skip+1] {
			l = append(l, kept{i, j + skip})
			j += skip + 1
		}
	}
	return l
}

// mostKept returns, for each i and j, how many tokens can be kept of a from i on and of b from j on. 16 bits are enough for MaxTokens.
func mostKept(a, b []string) [][]int16 {
	most := make([][]int16, len(a)+1)
	for i := range most {
		most[i] = make([]int16, len(b)+1)
	}
	for i := len(a) - 1; i >= 0; i-- {
		for j := len(b) - 1; j >= 0; j-- {
			if a[i] == b[j] {
				most[i][j] = 1 + most[i+1][j+1]
			} else {
				most[i][j] = max(most[i+1][j], most[i][j+1])
			}
		}
	}
	return most
}

// fewTokens returns the tokens of a string, if they are not too many.
func fewTokens(text string) ([]string, api.Errno) {
	if len(text) > api.MaxBody {
		return nil, api.ErrLarge
	}
	l := Tokens(text)
	if len(l) > api.MaxTokens {
		return nil, api.ErrLarge
	}
	return l, api.OK
}

func bothTokens(a, b string) (first, second []string, _ api.Errno) {
	first, e := fewTokens(a)
	if e != api.OK {
		return nil, nil, e
	}
	second, e = fewTokens(b)
	if e != api.OK {
		return nil, nil, e
	}
	return first, second, api.OK
}

// Distance returns how many tokens are not kept.
func Distance(a, b string) (int, api.Errno) {
	first, second, e := bothTokens(a, b)
	if e != api.OK {
		return 0, e
	}
	return len(first) + len(second) - 2*len(keep(first, second)), api.OK
}

// Differ returns what makes one string of another one.
func Differ(a, b string) ([]api.WordChange, api.Errno) {
	first, second, e := bothTokens(a, b)
	if e != api.OK {
		return nil, e
	}
	var l []api.WordChange
	end := kept{len(first), len(second)}
	i, j := 0, 0
	for _, k := range append(keep(first, second), end) {
		if i < k.first || j < k.second {
			l = append(l, api.WordChange{At: i, Drop: slices.Clone(first[i:k.first]), Add: slices.Clone(second[j:k.second])})
		}
		i, j = k.first+1, k.second+1
	}
	return l, api.OK
}

// Marked writes two strings in one. It can not be longer than MaxText: two strings of at most MaxBody bytes, and brackets around at most all of their tokens.
func Marked(a, b string) (string, api.Errno) {
	l, e := Differ(a, b)
	if e != api.OK {
		return "", e
	}
	return Join(replace(Tokens(a), l, brackets)), api.OK
}

// brackets shows a change.
func brackets(c api.WordChange) []string {
	var l []string
	if len(c.Drop) > 0 {
		l = append(l, "[-"+Join(c.Drop)+"-]")
	}
	if len(c.Add) > 0 {
		l = append(l, "{+"+Join(c.Add)+"+}")
	}
	return l
}
