package review

import (
	"slices"
	"strconv"
	"strings"

	"paperchase/api"
	"paperchase/lines"
	"paperchase/shape"
)

// The words of lines.
const (
	askWord      = "ask"
	oneWord      = "one"
	manyWord     = "many"
	ruleLine     = "rule"
	decisionWord = "decision"
	firstWord    = "first"
	secondWord   = "second"
)

// How the values of a decision are written.
const (
	signValue = "="
	signNext  = ","
)

// How many words lines have before what can be there or not.
const (
	askWords      = 4
	ruleWords     = 5
	decisionWords = 6
)

// either returns the word for what is so, or is not.
func either(so bool, no, yes string) string {
	if so {
		return yes
	}
	return no
}

// whether says which of the words of either it is; false if it is none of them.
func whether(word, no, yes string) (so, ok bool) {
	return word == yes, word == no || word == yes
}

// TextLayout writes a layout. It has no ErrLarge: not even the largest layout has MaxText bytes.
func TextLayout(l api.Layout) (string, api.Errno) {
	if e := CheckLayout(l); e != api.OK {
		return "", e
	}
	var b strings.Builder
	for _, a := range l.Asks {
		words := []string{askWord, a.Field, either(a.Many, oneWord, manyWord), spreadWord(a.Spread)}
		lines.Write(&b, append(words, a.Choices...)...)
	}
	for _, r := range l.Rules {
		words := []string{ruleLine, ruleWord(r.Kind), r.Field, r.If, r.Other}
		if r.Then != "" {
			words = append(words, r.Then)
		}
		lines.Write(&b, words...)
	}
	return b.String(), api.OK
}

// ReadLayout returns the layout of a string.
func ReadLayout(text string) (api.Layout, int, api.Errno) {
	var l api.Layout
	at, e := lines.Read(text, func(words []string) bool {
		switch words[0] {
		case askWord:
			a, ok := readAsk(words)
			l.Asks = append(l.Asks, a)
			return ok && len(l.Rules) == 0
		case ruleLine:
			r, ok := readRule(words)
			l.Rules = append(l.Rules, r)
			return ok
		}
		return false
	})
	if e == api.OK {
		e = CheckLayout(l)
	}
	if e != api.OK {
		return api.Layout{}, at, e
	}
	return l, 0, api.OK
}

// readAsk reads the words of the line of an Ask.
func readAsk(words []string) (api.Ask, bool) {
	if len(words) < askWords {
		return api.Ask{}, false
	}
	many, rightMany := whether(words[2], oneWord, manyWord)
	spread, rightSpread := shape.Named(words[3], spreadWord, api.SpreadNone, api.SpreadSame, api.SpreadFamily)
	return api.Ask{Field: words[1], Many: many, Spread: spread, Choices: words[askWords:]}, rightMany && rightSpread
}

// readRule reads the words of the line of a Rule.
func readRule(words []string) (api.Rule, bool) {
	if len(words) < ruleWords || len(words) > ruleWords+1 {
		return api.Rule{}, false
	}
	kind, ok := shape.Named(words[1], ruleWord, api.RuleNeeds, api.RuleBars)
	r := api.Rule{Kind: kind, Field: words[2], If: words[3], Other: words[4]}
	if len(words) > ruleWords {
		r.Then = words[ruleWords]
	}
	return r, ok
}

// Text writes decisions.
func Text(l api.Layout, d []api.Decision) (string, api.Errno) {
	if e := Check(l, d); e != api.OK {
		return "", e
	}
	var b strings.Builder
	for _, x := range d {
		words := []string{decisionWord, strconv.Itoa(x.No), strconv.Itoa(x.At), x.Reviewer, x.Item, either(x.Second, firstWord, secondWord)}
		for _, c := range x.Values {
			words = append(words, c.Field+signValue+strings.Join(c.Choices, signNext))
		}
		lines.Write(&b, words...)
		if b.Len() > api.MaxText {
			return "", api.ErrLarge
		}
	}
	return b.String(), api.OK
}

// Read returns the decisions of a string.
func Read(l api.Layout, text string) ([]api.Decision, int, api.Errno) {
	g, e := guideOf(l)
	if e != api.OK {
		return nil, 0, e
	}
	var d []api.Decision
	at, e := lines.Read(text, func(words []string) bool {
		x, ok := readDecision(words)
		d = append(d, x)
		return ok
	})
	if e == api.OK {
		_, e = g.entries(d)
	}
	if e != api.OK {
		return nil, at, e
	}
	return d, 0, api.OK
}

// readDecision reads the words of the line of a decision.
func readDecision(words []string) (api.Decision, bool) {
	if len(words) < decisionWords || words[0] != decisionWord {
		return api.Decision{}, false
	}
	no, rightNo := shape.Number(words[1])
	at, rightAt := shape.Number(words[2])
	second, rightLook := whether(words[5], firstWord, secondWord)
	x := api.Decision{No: no, At: at, Reviewer: words[3], Item: words[4], Second: second}
	for _, word := range words[decisionWords:] {
		c, ok := readChoice(word)
		if !ok {
			return api.Decision{}, false
		}
		x.Values = append(x.Values, c)
	}
	return x, rightNo && rightAt && rightLook
}

// readChoice reads what was chosen for a field.
func readChoice(word string) (api.Choice, bool) {
	name, rest, ok := strings.Cut(word, signValue)
	choices := strings.Split(rest, signNext)
	if !ok || name == "" || slices.Contains(choices, "") {
		return api.Choice{}, false
	}
	return api.Choice{Field: name, Choices: choices}, true
}
