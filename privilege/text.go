package privilege

import (
	"strconv"
	"strings"

	"paperchase/api"
	"paperchase/lines"
	"paperchase/shape"
)

const (
	noReceivers = "-"
	nextOne     = ";"
	rowWords    = 8 // the last one can be several words
)

// PrintLog writes a log.
func PrintLog(l []api.LogRow) (string, api.Errno) {
	if e := CheckRows(l); e != api.OK {
		return "", e
	}
	var b strings.Builder
	for _, r := range l {
		to := noReceivers
		if len(r.To) > 0 {
			to = strings.Join(r.To, nextOne)
		}
		lines.Write(&b, strconv.Itoa(r.No), r.Id, strconv.Itoa(r.At), callWord(r.Kind), strconv.Itoa(r.Spans), r.From, to, r.About)
		if b.Len() > api.MaxText {
			return "", api.ErrLarge
		}
	}
	return b.String(), api.OK
}

// ParseLog reads a log.
func ParseLog(text string) ([]api.LogRow, int, api.Errno) {
	var l []api.LogRow
	at, e := lines.Each(text, func(line string) bool {
		r, ok := readRow(line)
		l = append(l, r)
		return ok
	})
	if e == api.OK {
		e = CheckRows(l)
	}
	if e != api.OK {
		return nil, at, e
	}
	return l, 0, api.OK
}

// readRow reads the line of a row; what is in it can be wrong.
func readRow(line string) (api.LogRow, bool) {
	words := strings.SplitN(line, " ", rowWords)
	if len(words) < rowWords {
		return api.LogRow{}, false
	}
	no, rightNo := shape.Number(words[0])
	at, rightAt := shape.Number(words[2])
	kind, rightKind := shape.Named(words[3], callWord, api.CallFull, api.CallPart)
	spans, rightSpans := shape.Number(words[4])
	id, from, to, about := words[1], words[5], words[6], words[7]
	if !rightNo || !rightAt || !rightKind || !rightSpans || id == "" || from == "" || to == "" {
		return api.LogRow{}, false
	}
	r := api.LogRow{No: no, Id: id, At: at, From: from, Kind: kind, About: about, Spans: spans}
	if to != noReceivers {
		r.To = strings.Split(to, nextOne)
	}
	return r, true
}
