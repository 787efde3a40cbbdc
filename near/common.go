package near

import (
	"slices"
	"strings"

	"paperchase/api"
)

const minCommon = 2 // documents

// paragraphs returns the lines of each paragraph of a string.
func paragraphs(text string) [][]string {
	var l [][]string
	inside := false
	for _, line := range strings.Split(text, lineFeed) {
		if strings.Trim(line, " ") == "" {
			inside = false
			continue
		}
		if !inside {
			l = append(l, nil)
		}
		inside = true
		l[len(l)-1] = append(l[len(l)-1], line)
	}
	return l
}

// formOf returns the form of a paragraph; empty if it has none.
func formOf(lines []string) string { return wording(strings.Join(lines, lineFeed)) }

// formsOf returns the forms of the paragraphs of a string, each once.
func formsOf(text string) []string {
	var l []string
	for _, lines := range paragraphs(text) {
		if form := formOf(lines); form != "" {
			l = append(l, form)
		}
	}
	slices.Sort(l)
	return slices.Compact(l)
}

// Common returns the forms that several documents have.
func Common(l []api.Body, least int) ([]string, api.Errno) {
	if e := CheckBodies(l); e != api.OK {
		return nil, e
	}
	if least < minCommon || least > api.MaxBodies {
		return nil, api.ErrArg
	}
	many := map[string]int{}
	for _, b := range l {
		for _, form := range formsOf(b.Text) {
			many[form]++
		}
	}
	var common []string
	for form, n := range many {
		if n >= least {
			common = append(common, form)
		}
	}
	slices.Sort(common)
	return common, api.OK
}

// Strip leaves paragraphs out that are common.
func Strip(text string, common []string) (string, api.Errno) {
	if len(text) > api.MaxBody || len(common) > api.MaxCommon {
		return "", api.ErrLarge
	}
	if e := checkForms(common); e != api.OK {
		return "", e
	}
	var others []string
	for _, lines := range paragraphs(text) {
		if _, ok := slices.BinarySearch(common, formOf(lines)); !ok {
			others = append(others, strings.Join(lines, lineFeed)+lineFeed)
		}
	}
	return strings.Join(others, lineFeed), api.OK
}

func checkForms(l []string) api.Errno {
	for i, form := range l {
		if form == "" || form != wording(form) {
			return api.ErrForm
		}
		if i > 0 && form <= l[i-1] {
			return api.ErrOrder
		}
	}
	return api.OK
}
