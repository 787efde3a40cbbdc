package matter

import (
	"strconv"
	"strings"

	"paperchase/api"
	"paperchase/intake"
	"paperchase/produce"
	"paperchase/shape"
)

// console is what the commands of a session work on. Its lists are right.
type console struct {
	rest   []string // lines that are not read yet
	items  []api.Item
	lists  map[string][]api.Deed // by site
	policy api.Policy
	ruled  bool // there is a policy
	made   []api.Production
}

// commands returns them by their names.
func (x *console) commands() map[string]command {
	return map[string]command{
		"items":   {"m", x.readItems},
		"code":    {"snwwt", x.code},
		"clear":   {"snww", x.clear},
		"label":   {"snww", x.label},
		"cover":   {"snwnn", x.cover},
		"note":    {"snwt", x.note},
		"undo":    {"snwn", x.undo},
		"merge":   {"ss", x.merge},
		"tip":     {"s", x.tip},
		"show":    {"sw", x.show},
		"rivals":  {"s", x.rivals},
		"rule":    {"wwww", x.rule},
		"open":    {"s", x.open},
		"produce": {"swn", x.produce},
		"page":    {"w", x.page},
		"recall":  {"w", x.recall},
	}
}

func (x *console) readItems(w []word) ([]string, api.Errno) {
	many := w[0].number
	if many > len(x.rest) {
		x.rest = nil
		return nil, api.ErrSyntax
	}
	var b strings.Builder
	for _, line := range x.rest[:many] {
		b.WriteString(line + "\n")
	}
	x.rest = x.rest[many:]
	items, _, e := intake.Read(b.String())
	if e != api.OK {
		return nil, e
	}
	x.items = items
	return []string{done(len(items))}, api.OK
}

// deedOf begins a deed with the words of all commands that add one: SITE, AT and ID.
func deedOf(kind int, w []word) api.Deed {
	return api.Deed{Stamp: api.Stamp{Site: w[0].text}, At: w[1].number, Kind: kind, Id: w[2].text}
}

// add adds a deed to the list of its site.
func (x *console) add(d api.Deed) ([]string, api.Errno) {
	l, e := add(x.lists[d.Site], d)
	return x.put(d.Site, l, e)
}

// put gives a site another list, if this came without an error.
func (x *console) put(site string, l []api.Deed, e api.Errno) ([]string, api.Errno) {
	if e != api.OK {
		return nil, e
	}
	x.lists[site] = l
	return []string{done(len(l))}, api.OK
}

func (x *console) code(w []word) ([]string, api.Errno) {
	d := deedOf(api.DeedCode, w)
	d.Field, d.Value = w[3].text, w[4].text
	return x.add(d)
}

func (x *console) clear(w []word) ([]string, api.Errno) {
	d := deedOf(api.DeedCode, w)
	d.Field = w[3].text
	return x.add(d)
}

func (x *console) label(w []word) ([]string, api.Errno) {
	d := deedOf(api.DeedLabel, w)
	d.Value = w[3].text
	return x.add(d)
}

func (x *console) cover(w []word) ([]string, api.Errno) {
	d := deedOf(api.DeedCover, w)
	d.Span = api.Span{From: w[3].number, To: w[4].number}
	return x.add(d)
}

func (x *console) note(w []word) ([]string, api.Errno) {
	d := deedOf(api.DeedNote, w)
	d.Value = w[3].text
	return x.add(d)
}

func (x *console) undo(w []word) ([]string, api.Errno) {
	site := w[0].text
	l, e := undo(x.lists[site], site, w[1].number, api.Stamp{Site: w[2].text, No: w[3].number})
	return x.put(site, l, e)
}

func (x *console) merge(w []word) ([]string, api.Errno) {
	a, b := w[0].text, w[1].text
	l, e := union(x.lists[a], x.lists[b])
	// Of right lists without a conflict nothing else can be wrong.
	if e == api.OK && len(l) > api.MaxDeeds {
		e = api.ErrLarge
	}
	return x.put(a, l, e)
}

func (x *console) tip(w []word) ([]string, api.Errno) {
	many, sum := tip(x.lists[w[0].text], w[0].text)
	line := strconv.Itoa(many)
	if many > 0 {
		line += blank + sum
	}
	return []string{line, done()}, api.OK
}

func (x *console) show(w []word) ([]string, api.Errno) {
	if !shape.Key(w[1].text) {
		return nil, api.ErrName
	}
	r := ledgerOf(x.lists[w[0].text]).on(w[1].text)
	var l []string
	for _, c := range r.fields() {
		l = append(l, c.Field+blank+c.Value)
	}
	for _, label := range r.labels() {
		l = append(l, "#"+blank+label)
	}
	for _, s := range r.spans() {
		l = append(l, strconv.Itoa(s.From)+"-"+strconv.Itoa(s.To))
	}
	for _, note := range r.notes() {
		l = append(l, `"`+blank+note)
	}
	return append(l, done()), api.OK
}

func (x *console) rivals(w []word) ([]string, api.Errno) {
	var l []string
	for _, r := range rivals(x.lists[w[0].text], api.End) {
		l = append(l, r.Id+blank+r.Field)
	}
	return append(l, done()), api.OK
}

func (x *console) rule(w []word) ([]string, api.Errno) {
	p := api.Policy{Field: w[0].text, Yes: w[1].text, No: w[2].text, Secret: w[3].text}
	if e := CheckPolicy(p); e != api.OK {
		return nil, e
	}
	x.policy, x.ruled = p, true
	return []string{done()}, api.OK
}

// records returns those of all items in the list of a site.
func (x *console) records(site string) map[string]record {
	return ledgerOf(x.lists[site]).records()
}

func (x *console) open(w []word) ([]string, api.Errno) {
	if !x.ruled {
		return nil, api.ErrState
	}
	all := lacks(x.items, x.records(w[0].text), x.policy)
	var l []string
	for _, lack := range all {
		l = append(l, lack.Id+blank+strconv.Itoa(lack.Why))
	}
	return append(l, done(len(all))), api.OK
}

func (x *console) produce(w []word) ([]string, api.Errno) {
	if !x.ruled {
		return nil, api.ErrState
	}
	setup := api.Setup{Prefix: w[1].text, Digits: w[2].number, Order: api.OrderId, Slip: "withheld", Skip: "not wanted", Most: api.MaxPages}
	p, e := produce.Make(x.items, rulings(x.items, x.records(w[0].text), x.policy), setup, x.made)
	if e != api.OK {
		return nil, e
	}
	x.made = append(x.made, p)
	var l []string
	pages := 0
	for _, s := range p.Sheets {
		number, _ := produce.Number(p.Prefix, p.Digits, s.From) // it is one of p
		l = append(l, number+blank+s.Id)
		pages += len(s.Pages)
	}
	return append(l, done(pages)), api.OK
}

func (x *console) page(w []word) ([]string, api.Errno) {
	no, _, _, e := produce.Find(x.made, w[0].text)
	if e != api.OK {
		return nil, e
	}
	page, e := produce.Sheet(x.made[no-1], w[0].text)
	if e != api.OK {
		return nil, e
	}
	var l []string
	for _, line := range page {
		l = append(l, "|"+line)
	}
	return append(l, done()), api.OK
}

func (x *console) recall(w []word) ([]string, api.Errno) {
	all, numbers, e := produce.Recall(x.made, w[0].text)
	if e != api.OK {
		return nil, e
	}
	x.made = all
	return []string{done(len(numbers))}, api.OK
}
