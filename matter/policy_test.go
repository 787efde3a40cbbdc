package matter_test

import (
	"fmt"
	"math/rand/v2"
	"slices"
	"strings"
	"testing"

	"paperchase/api"
	"paperchase/matter"
	"paperchase/produce"
)

// names are keys that rise.
func names(many int) []string {
	var l []string
	for i := range many {
		l = append(l, name("f", i))
	}
	return l
}

// P10.5
func TestCheckPolicy(t *testing.T) {
	long := strings.Repeat("k", api.MaxName)
	for _, p := range []api.Policy{
		policy(),
		{Field: "f", Yes: "a", No: "b", Secret: "f"},
		{Field: long, Yes: strings.Repeat("é", 30), No: "Not at all!", Secret: long, Must: names(20)},
	} {
		is(t, matter.CheckPolicy(p), api.OK)
	}
	bad := func(want api.Errno, spoil func(p *api.Policy)) {
		t.Helper()
		p := policy()
		spoil(&p)
		is(t, matter.CheckPolicy(p), want)
	}
	for _, key := range badKeys() {
		bad(api.ErrName, func(p *api.Policy) { p.Field = key })
		bad(api.ErrName, func(p *api.Policy) { p.Secret = key })
		bad(api.ErrName, func(p *api.Policy) { p.Must = []string{"a", key} })
	}
	for _, value := range append(badPlain(), "", strings.Repeat("v", 61), strings.Repeat("é", 30)+"v") {
		bad(api.ErrForm, func(p *api.Policy) { p.Yes = value })
		bad(api.ErrForm, func(p *api.Policy) { p.No = value })
	}
	p := api.Policy{Field: "F", Yes: "", No: " ", Secret: "S", Must: append(words("b b A"), names(18)...)}
	for _, s := range []step{
		{api.ErrName, func() {}},
		{api.ErrName, func() { p.Field = "f" }},
		{api.ErrForm, func() { p.Secret = "s" }},
		{api.ErrForm, func() { p.Yes = "a" }},
		{api.ErrConflict, func() { p.No = "a" }},
		{api.ErrLarge, func() { p.No = "b" }},
		{api.ErrOrder, func() { p.Must = p.Must[:3] }}, // before the third one is looked at
		{api.ErrOrder, func() { p.Must = words("b a") }},
		{api.ErrName, func() { p.Must = words("a b A b") }},
		{api.OK, func() { p.Must = nil }},
	} {
		s.mend()
		is(t, matter.CheckPolicy(p), s.e)
	}
}

// P10.5: of items, then of a policy.
func TestPolicyFirst(t *testing.T) {
	bad := policy()
	bad.Yes = bad.No
	eachBadItems(t, func(l []api.Item) (api.Errno, []any) {
		r, e := matter.Rulings(l, nil, bad)
		return e, []any{r}
	})
	eachBadItems(t, func(l []api.Item) (api.Errno, []any) {
		r, e := matter.Open(l, nil, bad)
		return e, []any{r}
	})
	eachBadItems(t, func(l []api.Item) (api.Errno, []any) {
		r, e := matter.Tally(l, nil, "F")
		return e, []any{r}
	})
	for spoil, want := range map[string]api.Errno{"name": api.ErrName, "form": api.ErrForm, "conflict": api.ErrConflict, "large": api.ErrLarge, "order": api.ErrOrder} {
		p := policy()
		switch spoil {
		case "name":
			p.Secret = "S"
		case "form":
			p.No = ""
		case "conflict":
			p.No = "yes"
		case "large":
			p.Must = names(21)
		case "order":
			p.Must = words("b a")
		}
		r, e := matter.Rulings(items(), nil, p)
		fails(t, e, want, r)
		l, e := matter.Open(items(), nil, p)
		fails(t, e, want, l)
	}
	for _, key := range badKeys() {
		many, e := matter.Tally(items(), nil, key)
		fails(t, e, api.ErrName, many)
	}
}

// ruled writes rulings: the Id, what becomes of it, and its Spans.
func ruled(l []api.Ruling) string {
	var all []string
	for _, r := range l {
		s := r.Id + " " + []string{"?", "show", "hold", "leave"}[r.What]
		for _, x := range r.Spans {
			s += fmt.Sprintf(" %d-%d", x.From, x.To)
		}
		all = append(all, s)
	}
	return strings.Join(all, ", ")
}

// P10.5
func TestRulings(t *testing.T) {
	for script, want := range map[string]string{ // x has 8 bytes, y none, z 5
		"": "x leave, y leave, z leave",
		"a 5 code x want yes; a 5 code z want no":                                                                      "x show, y leave, z leave",
		"a 5 code x want Yes; a 5 code y want maybe; a 5 code z other yes":                                             "x leave, y leave, z leave",
		"a 5 code x want yes; b 5 code x want no; b 9 undo b 1":                                                        "x show, y leave, z leave",
		"a 5 code x want yes; b 5 label x secret; a 5 label y secret; a 5 label z hot":                                 "x hold, y hold, z leave",
		"a 5 code x want yes; b 5 label x secret; c 5 drop b 1":                                                        "x show, y leave, z leave",
		"a 5 code x want yes; a 5 cover x 0 3; a 5 cover x 6 9":                                                        "x show 0-3 6-8, y leave, z leave", // cut
		"a 5 code x want yes; a 5 cover x 0 20; a 5 cover z 0 2":                                                       "x show 0-8, y leave, z leave",
		"a 5 code x want yes; a 5 cover x 7 8; a 5 cover x 8 9; a 5 cover x 10 11":                                     "x show 7-8, y leave, z leave",
		"a 5 code x want yes; a 5 cover x 8 9; a 5 code y want yes; a 5 cover y 0 1":                                   "x show, y show, z leave",
		"a 5 code z want yes; a 5 cover z 1 2; a 5 cover z 2 4; a 5 cover z 0 1; a 5 drop a 4; b 5 code none want yes": "x leave, y leave, z show 1-4",
		"a 5 label x secret; a 5 cover x 1 2":                                                                          "x hold, y leave, z leave",
	} {
		all, l, p := roomy(items()), roomy(deeds(script)), roomy(policy())
		keeps(t, func() []any {
			r, e := matter.Rulings(all, l, p)
			gives(t, ruled(r), e, want)
			is(t, produce.CheckRulings(all, r), api.OK)
			return []any{r}
		}, all, l, p)
	}
	r, e := matter.Rulings(nil, deeds("a 5 code x want yes"), policy())
	gives(t, r, e, []api.Ruling{})
}

// lacking writes what is lacking.
func lacking(l []api.Lack) string {
	var all []string
	for _, x := range l {
		s := x.Id + " " + []string{"?", "decision", "field", "span", "family"}[x.Why]
		if x.Field != "" {
			s += " " + x.Field
		}
		all = append(all, s)
	}
	return strings.Join(all, ", ")
}

// P10.5
func TestOpen(t *testing.T) {
	whole := "a 1 code x size 1; a 1 code x topic t; a 1 code y size 1; a 1 code y topic t; a 1 code z size 1; a 1 code z topic t;"
	for script, want := range map[string]string{
		"":                                       "x decision, y decision, z decision",
		"a 5 code x want maybe; a 5 label y hot": "x decision, y decision, z decision",
		"a 5 code x want no; a 5 code y want no; a 5 code z want yes":                                                    "z field size, z field topic",
		"a 5 code x want no; a 5 code y want no; a 5 code z want yes; a 6 code z size big; a 7 code z topic":             "z field topic",
		whole + "b 5 code x want yes; b 5 code y want yes; b 5 code z want yes":                                          "",
		whole + "b 5 code x want yes; b 5 code z want yes":                                                               "x family, y decision",
		whole + "b 5 code y want yes; b 5 code z want yes":                                                               "x decision, y family",
		whole + "b 5 code y want no; b 5 code z want no":                                                                 "x decision", // what is not wanted lacks no family
		whole + "b 5 code x want yes; b 5 code y want no":                                                                "z decision", // another family
		whole + "b 5 code x want yes; b 5 code y want no; b 5 code z want no; b 6 undo b 2":                              "x family, y decision",
		"a 5 code x want no; a 5 code y want no; a 5 code z want no; a 5 cover z 0 5; a 5 cover z 0 6; a 5 cover z 9 10": "z span, z span",
		"a 5 code x want no; a 5 code y want no; a 5 code z want no; a 5 cover z 0 6; a 5 drop a 4; a 5 cover y 0 1":     "y span",
		"a 5 code x want yes; a 5 cover x 8 9; a 5 label x secret; a 5 code z want no":                                   "x field size, x field topic, x span, x family, y decision",
		"a 5 cover none 8 9; a 5 code none want yes":                                                                     "x decision, y decision, z decision",
	} {
		all, l, p := roomy(items()), roomy(deeds(script)), roomy(policy())
		keeps(t, func() []any {
			r, e := matter.Open(all, l, p)
			gives(t, lacking(r), e, want)
			return []any{r}
		}, all, l, p)
	}
	r, e := matter.Open(nil, deeds("a 5 code x want yes"), policy())
	gives(t, r, e, []api.Lack{})
	big := []api.Item{item("a", "", ""), item("b", "a", ""), item("c", "b", ""), item("d", "a", "")} // of several that are open once
	r, e = matter.Open(big, deeds("a 1 code a want yes; a 1 code c want yes"), api.Policy{Field: "want", Yes: "yes", No: "no", Secret: "s"})
	gives(t, lacking(r), e, "a family, b decision, c family, d decision")
}

// P10.5
func TestTally(t *testing.T) {
	for script, want := range map[string][]api.Valued{
		"":                    {{Many: 3}},
		"a 5 code x want yes": {{Many: 2}, {Value: "yes", Many: 1}},
		"a 5 code x want yes; a 5 code y want Yes; a 5 code z want no; b 1 code x want no":    {{Value: "Yes", Many: 1}, {Value: "no", Many: 1}, {Value: "yes", Many: 1}},
		"a 5 code x want yes; a 5 code y want no; a 5 code z want yes; a 5 code none want no": {{Value: "no", Many: 1}, {Value: "yes", Many: 2}},
		"a 5 code x want yes; b 5 code x want; a 5 code y other yes; a 5 code z want yes":     {{Many: 2}, {Value: "yes", Many: 1}},
	} {
		all, l := roomy(items()), roomy(deeds(script))
		keeps(t, func() []any {
			many, e := matter.Tally(all, l, "want")
			gives(t, many, e, want)
			return []any{many}
		}, all, l)
	}
	many, e := matter.Tally(nil, deeds("a 5 code x want yes"), "want")
	gives(t, many, e, []api.Valued{})
	many, e = matter.Tally(manyItems(api.MaxItems), nil, "want")
	gives(t, many, e, []api.Valued{{Many: api.MaxItems}})
}

// P10.5: by its words, for random deeds.
func TestPolicyAny(t *testing.T) {
	r := rand.New(rand.NewPCG(10, 9))
	p := api.Policy{Field: "want", Yes: "yes", No: "no", Secret: "secret", Must: words("topic")}
	for range 400 {
		l, all := someDeeds(r, r.IntN(40)), items()
		all[1].Parent = pick(r, "", "x", "z")
		decided := func(id string) bool { return slices.Contains(words("yes no"), valueOf(l, id, "want")) }
		top := map[string]string{"x": "x", "z": "z", "y": all[1].Parent}
		var rulings []api.Ruling
		var lacks []api.Lack
		many := map[string]int{}
		for _, x := range all {
			value := valueOf(l, x.Id, "want")
			many[value]++
			ruling := api.Ruling{Id: x.Id, What: api.RuleLeave}
			if value == "yes" {
				ruling.What = api.RuleShow
				for _, s := range covered(on(l, x.Id, api.DeedCover)) {
					if s.To = min(s.To, len(x.Text)); s.From < s.To {
						ruling.Spans = append(ruling.Spans, s)
					}
				}
			}
			if slices.ContainsFunc(on(l, x.Id, api.DeedLabel), func(d api.Deed) bool { return d.Value == "secret" }) {
				ruling = api.Ruling{Id: x.Id, What: api.RuleHold}
			}
			rulings = append(rulings, ruling)
			if !decided(x.Id) {
				lacks = append(lacks, api.Lack{Id: x.Id, Why: api.LackDecision})
			}
			if value == "yes" && valueOf(l, x.Id, "topic") == "" {
				lacks = append(lacks, api.Lack{Id: x.Id, Why: api.LackField, Field: "topic"})
			}
			for _, d := range on(l, x.Id, api.DeedCover) {
				if d.Span.To > len(x.Text) {
					lacks = append(lacks, api.Lack{Id: x.Id, Why: api.LackSpan})
				}
			}
			relative := slices.ContainsFunc(words("x y z"), func(id string) bool {
				return !decided(id) && (top[id] == top[x.Id] || top[id] == x.Id || id == top[x.Id]) && top[id]+top[x.Id] != ""
			})
			if value == "yes" && relative {
				lacks = append(lacks, api.Lack{Id: x.Id, Why: api.LackFamily})
			}
		}
		got, e := matter.Rulings(all, l, p)
		gives(t, got, e, rulings)
		open, e := matter.Open(all, l, p)
		gives(t, open, e, lacks)
		tally, e := matter.Tally(all, l, "want")
		is(t, e, api.OK)
		is(t, slices.IsSortedFunc(tally, func(a, b api.Valued) int { return strings.Compare(a.Value, b.Value) }), true)
		for _, v := range tally {
			is(t, v.Many, many[v.Value])
		}
		is(t, len(tally), len(many))
	}
}
