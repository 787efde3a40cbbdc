package matter

import (
	"paperchase/api"
	"paperchase/shape"
)

const (
	maxValue = 60  // bytes of the value of a field
	maxNote  = 200 // bytes
)

// kind is what deeds of a kind have.
type kind struct {
	word  string
	id    bool
	field bool
	value func(s string) bool // its form; nil: there is none
	span  bool
	of    func(kind int) bool // which kinds it takes back; nil: it takes nothing back
}

// kindOf returns what deeds of a kind have; false if there is no such kind.
func kindOf(number int) (kind, bool) {
	switch number {
	case api.DeedCode:
		return kind{word: "code", id: true, field: true, value: isValue}, true
	case api.DeedLabel:
		return kind{word: "label", id: true, value: shape.Key}, true
	case api.DeedDrop:
		return kind{word: "drop", of: isDropped}, true
	case api.DeedCover:
		return kind{word: "cover", id: true, span: true}, true
	case api.DeedNote:
		return kind{word: "note", id: true, value: isNote}, true
	case api.DeedUndo:
		return kind{word: "undo", of: isUndone}, true
	}
	return kind{}, false
}

// kindWord returns the word of a kind of deeds; empty if there is no such kind.
func kindWord(number int) string {
	k, _ := kindOf(number)
	return k.word
}

// isDropped says whether a DeedDrop takes back deeds of a kind.
func isDropped(kind int) bool { return kind == api.DeedLabel || kind == api.DeedCover }

// isUndone says whether a DeedUndo takes back deeds of a kind.
func isUndone(kind int) bool {
	return kind == api.DeedCode || kind == api.DeedNote || kind == api.DeedDrop
}

func isValue(s string) bool { return len(s) <= maxValue && shape.Plain(s) }

func isNote(s string) bool { return s != "" && len(s) <= maxNote && shape.Plain(s) }

func isSpan(s api.Span) bool { return 0 <= s.From && s.From < s.To && s.To <= api.MaxBody }

// checkSaid validates what a deed says, but for what it takes back.
func checkSaid(d api.Deed) api.Errno {
	k, ok := kindOf(d.Kind)
	none := api.Deed{}
	switch {
	case !ok:
		return api.ErrKind
	case !k.id && d.Id != "", !k.field && d.Field != "", k.value == nil && d.Value != "":
		return api.ErrForm
	case !k.span && d.Span != none.Span, k.of == nil && d.Of != none.Of:
		return api.ErrForm
	case k.id && !shape.Key(d.Id), k.field && !shape.Key(d.Field):
		return api.ErrName
	case k.value != nil && !k.value(d.Value), k.span && !isSpan(d.Span):
		return api.ErrForm
	}
	return api.OK
}
