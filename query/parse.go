package query

import "paperchase/api"

// Parse reads a search.
func Parse(text string) (api.Query, int, api.Errno) {
	if len(text) > api.MaxText {
		return api.Query{}, 0, api.ErrLarge
	}
	q, at, ok := read(text)
	if !ok {
		return api.Query{}, at, api.ErrSyntax
	}
	if e := Check(q); e != api.OK {
		return api.Query{}, 0, e
	}
	return q, 0, api.OK
}

// read reads a search that need not be a right one. If it is not well formed, the number is that of the byte where this shows.
func read(text string) (api.Query, int, bool) {
	r := reader{levels: []level{{}}}
	for at := 0; ; {
		t, next := scan(text, at)
		if t.what == tokenEnd && r.full && len(r.levels) == 1 {
			return r.inner().end(), 0, true
		}
		if !r.take(t) {
			return api.Query{}, t.at, false
		}
		at = next
	}
}

// reader takes the tokens of a search. Open parentheses are a list, because there can be more of them than calls should be one within the other.
type reader struct {
	levels []level // innermost last
	full   bool    // the last token ended an element
}

func (r *reader) inner() *level { return &r.levels[len(r.levels)-1] }

// take takes a token, and says whether it can be here.
func (r *reader) take(t token) bool {
	if r.full {
		return r.takeAfter(t)
	}
	in := r.inner()
	switch t.what {
	case tokenElement:
		in.put(t.query)
		r.full = true
	case tokenOpen:
		r.levels = append(r.levels, level{})
	case tokenNot:
		if in.isLinked() {
			return false
		}
		in.nots++
	default:
		return false
	}
	return true
}

// takeAfter is take after an element.
func (r *reader) takeAfter(t token) bool {
	in := r.inner()
	r.full = false
	switch t.what {
	case tokenLink:
		in.link = t.query
	case tokenAnd:
		in.endNot()
	case tokenOr:
		in.endAnd()
	case tokenClose:
		if len(r.levels) == 1 {
			return false
		}
		whole := in.end()
		r.levels = r.levels[:len(r.levels)-1]
		r.inner().put(whole)
		r.full = true
	default:
		return false
	}
	return true
}

// level is what has been read within parentheses, or outside of all.
type level struct {
	ors  []api.Query // whole elements of a FindOr
	ands []api.Query // whole elements of a FindAnd after them
	nots int         // how many there are before what follows
	left api.Query   // what has been read of a search without and, or, not
	link api.Query   // what stands after it: a FindNear or FindPre without its Args
}

func (l *level) isLinked() bool { return l.link.Kind != 0 }

// put takes an element.
func (l *level) put(q api.Query) {
	if l.isLinked() {
		l.link.Args = []api.Query{l.left, q}
		q = l.link
		l.link = api.Query{}
	}
	l.left = q
}

func (l *level) endNot() {
	for range l.nots {
		l.left = inverse(l.left)
	}
	l.ands = append(l.ands, l.left)
	l.nots = 0
}

func (l *level) endAnd() {
	l.endNot()
	l.ors = append(l.ors, joined(api.FindAnd, l.ands))
	l.ands = nil
}

func (l *level) end() api.Query {
	l.endAnd()
	return joined(api.FindOr, l.ors)
}

// inverse returns the FindNot of a search.
func inverse(q api.Query) api.Query {
	return api.Query{Kind: api.FindNot, Args: []api.Query{q}}
}

// joined returns the FindAnd or FindOr of searches; of one alone itself.
func joined(kind int, l []api.Query) api.Query {
	if len(l) == 1 {
		return l[0]
	}
	return api.Query{Kind: kind, Args: l}
}
