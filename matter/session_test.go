package matter_test

import (
	"fmt"
	"math/rand/v2"
	"slices"
	"strconv"
	"strings"
	"testing"

	"paperchase/api"
	"paperchase/intake"
	"paperchase/matter"
	"paperchase/produce"
)

// says checks the replies to some lines; in both / is for the ends of lines.
func says(t *testing.T, text, want string) {
	t.Helper()
	ends := strings.NewReplacer("/", "\n")
	if want != "" {
		want += "/"
	}
	if got := matter.Session(ends.Replace(text)); got != ends.Replace(want) {
		t.Errorf("%s\ngot  %s\nwant %s", text, strings.ReplaceAll(got, "\n", "/"), want)
	}
}

// pile is items as commands: the families of x (with y) and z.
func pile(t *testing.T) string {
	t.Helper()
	text, e := intake.Text(items())
	is(t, e, api.OK)
	return "items " + strconv.Itoa(strings.Count(text, "\n")) + "/" + strings.ReplaceAll(text, "\n", "/")
}

// P10.7: of deeds.
func TestSessionDeeds(t *testing.T) {
	says(t, "", "")
	says(t, "/", "")
	says(t, "//", "")
	says(t, "/code a 5 x want yes//", "ok 1")
	says(t, "code a 5 x want yes/code a 5 x want no/code b 5 x want yes/show a x/show b x/show c x", "ok 1/ok 2/ok 1/want no/ok/want yes/ok/ok")
	says(t, "code a 5 x want yes/clear a 5 x want/show a x", "ok 1/ok 2/ok")
	says(t, "code a 5 x want not at all/show a x", "ok 1/want not at all/ok")
	says(t, "label a 1 x hot/label a 1 x cold/label a 1 x hot/show a x", "ok 1/ok 2/ok 3/# cold/# hot/ok")
	says(t, "cover a 1 x 5 9/cover a 1 x 1 2/cover a 1 x 9 10/show a x", "ok 1/ok 2/ok 3/1-2/5-10/ok")
	says(t, "note a 2 x b c/note a 1 x a/show a x", "ok 1/ok 2/\" a/\" b c/ok")
	says(t, "note a 1 x n/cover a 1 x 1 2/label a 1 x hot/code a 1 x want yes/code a 1 x area one/show a x", "ok 1/ok 2/ok 3/ok 4/ok 5/area one/want yes/# hot/1-2/\" n/ok")
	says(t, "label a 1 x hot/undo a 2 a 1/show a x/undo a 3 a 2/show a x", "ok 1/ok 2/ok/ok 3/# hot/ok")
	says(t, "code a 1 x f v/undo a 2 a 1/show a x/undo a 2 a 1/undo a 2 a 2/undo a 2 a 3", "ok 1/ok 2/ok/error 11/error 16/error 8")
	says(t, "label a 1 x hot/undo b 2 a 1/merge b a/undo b 2 a 1/show b x/show a x", "ok 1/error 8/ok 1/ok 2/ok/# hot/ok")
	says(t, "code a 1 x f v/merge b a/undo b 1 a 1/undo b 1 A 1/undo b 1 a -1", "ok 1/ok 1/error 16/error 8/error 8")
	says(t, "merge a b/merge a a/code a 1 x f v/merge a a/merge a b/merge b a/code b 1 x f w/merge a b/show a x", "ok 0/ok 0/ok 1/ok 1/ok 1/ok 1/ok 2/ok 2/f w/ok")
	says(t, "code a 5 x want yes/code b 6 x want no/code b 6 a want no/clear a 0 a want/merge a b/rivals a/rivals b/rivals c", "ok 1/ok 1/ok 2/ok 2/ok 4/a want/x want/ok/ok/ok")
	says(t, "code a 0 x want yes/code b 5759999 x want no/merge a b/rivals a", "ok 1/ok 1/ok 2/x want/ok")
	l := deeds("a 5 code x want yes; a 6 label x hot; b 9 note y n")
	says(t, "tip a/code a 5 x want yes/tip a/label a 6 x hot/note b 9 y n/merge a b/tip a/tip b/tip c", "0/ok/ok 1/1 "+l[0].Sum+"/ok/ok 2/ok 1/ok 3/2 "+l[1].Sum+"/ok/1 "+l[2].Sum+"/ok/0/ok")
	// After an error nothing has changed.
	says(t, "code a 1 x f v/code a 1 x f  v/note a 1 x  /code a -1 x f v/cover a 1 x 2 2/label a 1 x L/undo a 1 a 9/tip a", "ok 1/error 3/error 3/error 1/error 3/error 3/error 8/1 "+deeds("a 1 code x f v")[0].Sum+"/ok")
}

// P10.7: lines of another form, and names that are no keys.
func TestSessionForms(t *testing.T) {
	for _, line := range []string{
		" ", "x", "Code a 1 x f v", " code a 1 x f v", "ok", "error 9", "open", "open ", "open  a", "open a ", "open a b", "\topen a",
		"items", "items ", "items x", "items -1", "items 01", "items 1000000", "items +1", "items 0 0", "items 00", "items -0",
		"code a 1 x f", "code a 1 x f ", "code a 1 x  v", "code a  1 x f v", "code a 1  f v", "code  a 1 x f v", "code a x x f v", "code a 1. x f v",
		"code a 1000000000 x f v", "code a -1000000000 x f v", "code a 01 x f v", "code a -0 x f v", "code a +1 x f v", "code", "code ",
		"clear a 1 x", "clear a 1 x f v", "clear a 1 x f ", "clear a 1 x ", "clear a x x f",
		"label a 1 x", "label a 1 x l m", "label a 1 x ", "label a y x l",
		"cover a 1 x 1", "cover a 1 x 1 2 3", "cover a 1 x 1 2 ", "cover a 1 x a 2", "cover a 1 x 1 1000000000", "cover a 1 x 01 2", "cover a 1 x 1  2",
		"note a 1 x", "note a 1 x ", "note a x x n", "note a 1 ",
		"undo a 1 a", "undo a 1 a 1 1", "undo a 1 a x", "undo a 1  1", "undo a x a 1", "undo a 1 a 1000000000",
		"merge a", "merge a ", "merge a b c", "merge  a", "merge A", "tip", "tip a b", "tip ", "show a", "show a ", "show a x y", "show A",
		"rivals", "rivals a b", "rule f y n", "rule f y n s t", "rule f y  s", "rule f y n ", "rule",
		"produce a A", "produce a A x", "produce a A 4 4", "produce a A ", "produce a  4", "produce a A 1000000000", "produce A A x",
		"page", "page ", "page A B", "recall", "recall ", "recall a b", "code A x x f v", "cover A 1 x 1", "\x00", "ö",
	} {
		says(t, line, "error 9")
	}
	for _, line := range []string{
		"code A -1 X F  ", "clear A -1 X F", "label A -1 X L", "cover A -1 X 1 1", "note A -1 X  ", "undo A -1 a 0", "merge A b", "merge a B", "merge A B",
		"tip A", "show A X", "show a X", "show a -", "rivals A", "open A", "produce A a 1", "tip a\r", "tip -", "tip " + strings.Repeat("k", api.MaxName+1),
		"code a 1 X f v", "code a 1 x F v", "note a 1 9 n", "rule F y y s", "rule f y n S", "recall A",
	} {
		says(t, line, "error 5")
	}
	for line, want := range map[string]string{
		"code a -1 X F  ":         "error 1", // At before names
		"code a 999999999 x f v":  "error 1",
		"code a -999999999 x f v": "error 1",
		"code a 1 x f  v":         "error 3",
		"code a 1 x f v ":         "error 3",
		"code a 1 x f  ":          "error 3",
		"code a 1 x f \xff":       "error 3",
		"label a 1 x L":           "error 3",
		"cover a 1 x -1 2":        "error 3",
		"cover a 1 x 2 2":         "error 3",
		"cover a 1 x 0 20001":     "error 3",
		"note a 1 x a  b":         "error 3",
		"undo a -1 a 1":           "error 1",
		"undo a 1 B 1":            "error 8", // only the first one has to be a key
		"undo a 1 a 1":            "error 8",
		"undo a 1 a -999999999":   "error 8",
		"rule f y y s":            "error 13",
		"rule f é n s":            "ok",
		"rule f \x01 n s":         "error 3",
		"open a":                  "error 11",
		"produce a A 4":           "error 11",
		"produce a ! -7":          "error 11",
		"page x":                  "error 9",
		"page A001":               "error 9",
		"page A0001":              "error 8",
		"recall x":                "error 8",
		"show a x":                "ok",
		"items 0":                 "ok 0",
		"items 1":                 "error 9",
		"items 999999":            "error 9",
		"code a 1 " + "x f " + strings.Repeat("v", 60): "ok 1",
		"code a 1 " + "x f " + strings.Repeat("v", 61): "error 3",
	} {
		says(t, line, want)
	}
}

// P10.7: blocks.
func TestSessionItems(t *testing.T) {
	says(t, pile(t)+"rule want yes no secret/open a", "ok 3/ok/x 1/y 1/z 1/ok 3")
	says(t, "items 1/item x ann note 0 - \"\" 0", "ok 1") // the line feed is left out, and each line has one
	says(t, "items 1/item x ann note 0 - \"\" 0/", "ok 1")
	says(t, "items 2/item x ann note 0 - \"\" 1/|/rule f y n s/open a", "ok 1/ok/x 1/ok 1")
	says(t, "items 1/item x ann note 0 - \"\" 1/|/tip a", "error 9/error 9/0/ok") // the block ends before the |
	says(t, "items 2/item x ann note 0 - \"\" 0/", "error 9")
	says(t, "items 1", "error 9")
	says(t, "items 1/", "error 9")
	says(t, "items 1//", "error 9") // an empty line
	says(t, "items 1//tip a", "error 9/0/ok")
	says(t, "items 3/tip a/tip a", "error 9") // all of them belong to it
	says(t, "items 2/tip a/tip a/tip b", "error 9/0/ok")
	says(t, "items 999999/tip a/tip a", "error 9")
	says(t, "items x/tip a", "error 9/0/ok") // there is no block
	says(t, "items 1000000/tip a", "error 9/0/ok")
	says(t, pile(t)+"items 1/tip a/items 1/item X ann note 0 - \"\" 0/items 1/item x ann note 0 - \"\" 1/rule f y n s/open a", "ok 3/error 9/error 5/error 9/ok/x 1/y 1/z 1/ok 3")
	says(t, pile(t)+"items 1/item y ann file 0 q \"\" 0/items 1/item y ann file 0 - \"\" 0/rule f y n s/open a/items 0/open a", "ok 3/error 8/ok 1/ok/y 1/ok 1/ok 0/ok 0")
	says(t, "items 000001/item x ann note 0 - \"\" 0", "error 9/error 9")
}

// P10.7: what becomes of items.
func TestSessionProduce(t *testing.T) {
	start := pile(t) + "code a 1 x want yes/code a 1 y want no/label b 1 z secret/code b 1 z want yes/cover b 1 x 4 7/merge a b/"
	began := "ok 3/ok 1/ok 2/ok 1/ok 2/ok 3/ok 5/"
	says(t, start+"open a/rule want yes no secret/open a/open b", began+"error 11/ok/ok 0/x 1/y 1/ok 2")
	rules := start + "rule want yes no secret/"
	ruled := began + "ok/"
	says(t, rules+"produce a AB 4/page AB0001/page AB0002/page AB0003/page AB001/page AB00001", ruled+"AB0001 x/AB0002 y/ok 2/|one ###/|AB0001/ok/|not wanted/|AB0002/ok/error 8/error 9/error 8")
	says(t, rules+"produce a AB 4/produce a AB 4/produce b AB 4/produce c AB 4", ruled+"AB0001 x/AB0002 y/ok 2/error 6/error 8/error 8")
	says(t, rules+"produce a ab 4/produce a AB 3/produce a AB 10/produce a AB -1/produce a ABCDEFGHI 4/produce c ! 0", ruled+"error 3/error 1/error 1/error 1/error 3/error 3")
	says(t, rules+"produce a AB 9/page AB000000002", ruled+"AB000000001 x/AB000000002 y/ok 2/|not wanted/|AB000000002/ok")
	// What was held becomes free, and the numbers go on.
	free := rules + "produce a AB 4/undo a 2 b 1/items 1/item z bob note 0 - \"\" 0/produce a AB 5/page AB00003/"
	freed := ruled + "AB0001 x/AB0002 y/ok 2/ok 6/ok 1/AB00003 z/ok 1/|AB00003/ok/"
	says(t, free+"recall y/page AB0002/page AB0001/recall x/page AB0001/page AB0002/page AB00003", freed+"ok 2/|recalled/|AB0002.2/ok/|recalled/|AB0001.2/ok/ok 1/|recalled/|AB0001.3/ok/|recalled/|AB0002.2/ok/|AB00003/ok")
	says(t, free+"recall q/recall z/page AB00003", freed+"error 8/ok 1/|recalled/|AB00003.2/ok")
	// What is withheld has a page in its place.
	says(t, pile(t)+"rule want yes no secret/code a 1 x want yes/label a 1 y secret/produce a C 4/page C0002/open a", "ok 3/ok/ok 1/ok 2/C0001 x/C0002 y/ok 2/|withheld/|C0002/ok/x 4/y 1/z 1/ok 3")
	// Another policy, and a wrong one, which changes nothing.
	says(t, pile(t)+"rule want yes no secret/rule want no no secret/open a/code a 1 x keep y/rule keep y n hot/produce a C 4", "ok 3/ok/error 13/x 1/y 1/z 1/ok 3/ok 1/ok/C0001 x/C0002 y/ok 2")
	says(t, "rule want yes no secret/open a/produce a C 4/recall x/page C0001", "ok/ok 0/error 8/error 8/error 8")
	// Families are by Id, and items of several pages have the number of the first one.
	says(t, "items 53/item a ann mail 9 - \"\" 51/"+strings.Repeat("|/", 51)+"item b ann mail 1 - \"\" 0/code a 1 b want yes/code a 1 a want yes/rule want yes no secret/produce a C 4/page C0003", "ok 2/ok 1/ok 2/ok/C0001 a/C0003 b/ok 3/|C0003/ok")
}

// P10.7: at the bounds.
func TestSessionLarge(t *testing.T) {
	if got := matter.Session(strings.Repeat("\n", api.MaxText+1)); got != "error 2\n" {
		t.Errorf("%.40q", got)
	}
	if got := matter.Session(strings.Repeat("tip a\n", api.MaxText/6) + "\n\n"); got != strings.Repeat("0\nok\n", api.MaxText/6) {
		t.Errorf("%.40q", got)
	}
	var lines, want []string
	for i := range api.MaxDeeds {
		lines = append(lines, "clear a 1 x f")
		want = append(want, fmt.Sprintf("ok %d", i+1))
	}
	lines = append(lines, "clear a 1 x f", "undo a 1 a 1", "clear a -1 x f", "clear A 1 x f", "merge b a", "clear b 1 x f", "clear c 1 x f", "merge c a", "show c x", "tip c", "merge a a", "merge a d", "rivals a")
	want = append(want, "error 12", "error 12", "error 12", "error 5", "ok 2000", "error 12", "ok 1", "error 2", "ok", "1 "+deeds("c 1 code x f")[0].Sum, "ok", "ok 2000", "ok 2000", "ok")
	if got := matter.Session(strings.Join(lines, "\n")); got != strings.Join(want, "\n")+"\n" {
		t.Errorf("%.200q", got[max(0, len(got)-200):])
	}
}

// P10.5, P10.7: more spans than there can be in a ruling make no production.
func TestSessionSpans(t *testing.T) {
	lines := []string{"items 1001", `item x ann note 0 - "" 1000`}
	for range 1_000 {
		lines = append(lines, "|aa")
	}
	lines = append(lines, "rule f y n s", "code a 1 x f y")
	for i := range api.MaxSpans + 1 {
		lines = append(lines, fmt.Sprintf("cover a 1 x %d %d", 2*i, 2*i+1))
	}
	text := strings.Join(append(lines, "produce a C 4", "undo a 1 a 2", "produce a C 4"), "\n")
	got := strings.Split(strings.TrimSuffix(matter.Session(text), "\n"), "\n")
	is(t, got[len(got)-4:], []string{"error 2", "ok 1003", "C0001 x", "ok 20"})
}

// model is a session by the words of P10.7, made of exported functions.
type model struct {
	items  []api.Item
	lists  map[string][]api.Deed
	policy *api.Policy
	made   []api.Production
}

// run executes a line whose form is right, and returns its replies.
func (m *model) run(w []string) ([]string, api.Errno) {
	n := func(at int) int { return number(w[at]) }
	put := func(l []api.Deed, e api.Errno) ([]string, api.Errno) {
		if e == api.OK {
			m.lists[w[1]] = l
		}
		return []string{fmt.Sprint("ok ", len(l))}, e
	}
	l := m.lists[w[1]]
	switch w[0] {
	case "code":
		return put(matter.Add(l, w[1], n(2), api.DeedCode, w[3], w[4], strings.Join(w[5:], " "), api.Span{}))
	case "clear":
		return put(matter.Add(l, w[1], n(2), api.DeedCode, w[3], w[4], "", api.Span{}))
	case "label":
		return put(matter.Add(l, w[1], n(2), api.DeedLabel, w[3], "", w[4], api.Span{}))
	case "note":
		return put(matter.Add(l, w[1], n(2), api.DeedNote, w[3], "", strings.Join(w[4:], " "), api.Span{}))
	case "cover":
		return put(matter.Add(l, w[1], n(2), api.DeedCover, w[3], "", "", span(n(4), n(5))))
	case "undo":
		return put(matter.Undo(l, w[1], n(2), stamp(w[3], n(4))))
	case "merge":
		return put(matter.Merge(l, m.lists[w[2]]))
	case "rule":
		p := api.Policy{Field: w[1], Yes: w[2], No: w[3], Secret: w[4]}
		e := matter.CheckPolicy(p)
		if e == api.OK {
			m.policy = &p
		}
		return []string{"ok"}, e
	}
	return m.look(w)
}

// look executes what changes no list.
func (m *model) look(w []string) ([]string, api.Errno) {
	l := m.lists[w[1]]
	var out []string
	add := func(parts ...any) { out = append(out, fmt.Sprint(parts...)) }
	switch w[0] {
	case "tip":
		many, sum, e := matter.Tip(l, w[1])
		add(strings.TrimSpace(fmt.Sprint(many, " ", sum)))
		add("ok")
		return out, e
	case "show":
		fields, e := matter.Fields(l, w[2])
		for _, f := range fields {
			add(f.Field, " ", f.Value)
		}
		labels, _ := matter.Labels(l, w[2])
		for _, label := range labels {
			add("# ", label)
		}
		spans, _ := matter.Spans(l, w[2])
		for _, s := range spans {
			out = append(out, fmt.Sprintf("%d-%d", s.From, s.To))
		}
		notes, _ := matter.Notes(l, w[2])
		for _, note := range notes {
			add("\" ", note)
		}
		add("ok")
		return out, e
	case "rivals":
		rivals, e := matter.Rivals(l, api.End)
		for _, r := range rivals {
			add(r.Id, " ", r.Field)
		}
		add("ok")
		return out, e
	case "open":
		if m.policy == nil {
			return nil, api.ErrState
		}
		lacks, e := matter.Open(m.items, l, *m.policy)
		for _, x := range lacks {
			out = append(out, fmt.Sprintf("%s %d", x.Id, x.Why))
		}
		return append(out, fmt.Sprintf("ok %d", len(lacks))), e
	}
	return m.hand(w)
}

// hand executes what is about productions.
func (m *model) hand(w []string) ([]string, api.Errno) {
	var out []string
	switch w[0] {
	case "produce":
		if m.policy == nil {
			return nil, api.ErrState
		}
		rulings, e := matter.Rulings(m.items, m.lists[w[1]], *m.policy)
		if e != api.OK {
			return nil, e
		}
		p, e := produce.Make(m.items, rulings, api.Setup{Prefix: w[2], Digits: number(w[3]), Order: api.OrderId, Slip: "withheld", Skip: "not wanted", Most: api.MaxPages}, m.made)
		if e != api.OK {
			return nil, e
		}
		m.made = append(slices.Clone(m.made), p)
		pages := 0
		for _, s := range p.Sheets {
			out = append(out, fmt.Sprintf("%s%0*d %s", p.Prefix, p.Digits, s.From, s.Id))
			pages += s.To - s.From + 1
		}
		return append(out, fmt.Sprintf("ok %d", pages)), api.OK
	case "page":
		no, _, _, e := produce.Find(m.made, w[1])
		if e != api.OK {
			return nil, e
		}
		page, e := produce.Sheet(m.made[no-1], w[1])
		for _, line := range page {
			out = append(out, "|"+line)
		}
		return append(out, "ok"), e
	case "recall":
		all, numbers, e := produce.Recall(m.made, w[1])
		if e == api.OK {
			m.made = all
		}
		return []string{fmt.Sprintf("ok %d", len(numbers))}, e
	}
	panic(w)
}

// someLine makes a line that has the form of a command.
func someLine(r *rand.Rand) string {
	site, at, id := pick(r, "a", "b", "c", "c", "d-1"), pick(r, "0", "1", "2", "9", "9", "-1"), pick(r, "x", "x", "y", "z", "none", "X")
	begin := site + " " + at + " " + id + " "
	field, text := pick(r, "want", "want", "topic", "F"), pick(r, "yes", "yes", "no", "maybe", "two words", "two  blanks")
	switch r.IntN(18) {
	case 0, 1, 2:
		return "code " + begin + field + " " + text
	case 3:
		return "clear " + begin + field
	case 4:
		return "label " + begin + pick(r, "hot", "secret", "L")
	case 5:
		from := r.IntN(9)
		return "cover " + begin + fmt.Sprint(from, " ", from+r.IntN(5))
	case 6:
		return "note " + begin + text
	case 7, 8:
		return "undo " + site + " " + at + " " + pick(r, site, site, "a", "b", "Q") + " " + pick(r, "1", "2", "3", "4", "0")
	case 9, 10:
		return "merge " + site + " " + pick(r, "a", "b", "c", "e")
	case 11:
		return "tip " + site
	case 12:
		return "show " + site + " " + id
	case 13:
		return "rivals " + site
	case 14:
		return pick(r, "rule want yes no secret", "rule topic yes maybe hot", "rule want yes yes hot", "open "+site)
	case 15:
		return "produce " + site + " " + pick(r, "AB 4", "AB 5", "C 4", "c 4", "C 3")
	case 16:
		return "page " + pick(r, "AB0001", "AB0002", "C0001", "AB00002", "AB1", "C0003")
	}
	return "recall " + id
}

// P10.7: by its words, for random lines.
func TestSessionAny(t *testing.T) {
	r := rand.New(rand.NewPCG(10, 11))
	for range 300 {
		m := model{lists: map[string][]api.Deed{}}
		var text, want strings.Builder
		for range 60 {
			if r.IntN(20) == 0 {
				m.items = items()[:1+r.IntN(3)]
				block, _ := intake.Text(m.items)
				fmt.Fprintf(&text, "items %d\n%s", strings.Count(block, "\n"), block)
				fmt.Fprintf(&want, "ok %d\n", len(m.items))
			}
			line := someLine(r)
			text.WriteString(line + "\n")
			replies, e := m.run(strings.Split(line, " "))
			if e != api.OK {
				replies = []string{fmt.Sprint("error ", int(e))}
			}
			want.WriteString(strings.Join(replies, "\n") + "\n")
		}
		if got := matter.Session(text.String()); got != want.String() {
			t.Fatalf("%s\ngot\n%s\nwant\n%s", text.String(), got, want.String())
		}
	}
}
