package produce

import (
	"strconv"
	"strings"

	"paperchase/api"
	"paperchase/intake"
	"paperchase/lines"
	"paperchase/shape"
)

// How cells are written.
const (
	cellSign  = "^"
	nextSign  = "|"
	escape    = "~"
	feedAfter = "n" // a line feed, after an escape
)

const maxColumns = 30

// Table returns rows for a production.
func Table(p api.Production, items []api.Item) ([][]string, api.Errno) {
	if e := Check(p); e != api.OK {
		return nil, e
	}
	if e := intake.Check(items); e != api.OK {
		return nil, e
	}
	custodians := map[string]string{}
	for _, x := range items {
		custodians[x.Id] = x.Custodian
	}
	rows := [][]string{{"begin", "end", "id", "family", "custodian", "kind", "pages", "version"}}
	for _, s := range p.Sheets {
		custodian, ok := custodians[s.Id]
		if !ok {
			return nil, api.ErrNone
		}
		rows = append(rows, []string{
			numberOf(p, s.From), numberOf(p, s.To), s.Id, s.Top, custodian, kindWord(s.Kind), strconv.Itoa(many(s)), strconv.Itoa(s.Version),
		})
	}
	return rows, api.OK
}

// checkRows validates rows.
func checkRows(rows [][]string) api.Errno {
	if len(rows) > api.MaxItems+1 {
		return api.ErrLarge
	}
	for _, row := range rows {
		if len(row) == 0 || len(row) > maxColumns || len(row) != len(rows[0]) {
			return api.ErrForm
		}
		for _, cell := range row {
			if !shape.Printed(cell) {
				return api.ErrForm
			}
		}
	}
	return api.OK
}

// PrintLoad writes rows.
func PrintLoad(rows [][]string) (string, api.Errno) {
	if e := checkRows(rows); e != api.OK {
		return "", e
	}
	signs := strings.NewReplacer(cellSign, cellSign+cellSign, escape, escape+escape, lineFeed, escape+feedAfter)
	var b strings.Builder
	for _, row := range rows {
		for i, cell := range row {
			if i > 0 {
				b.WriteString(nextSign)
			}
			b.WriteString(cellSign + signs.Replace(cell) + cellSign)
		}
		b.WriteString(lineFeed)
		if b.Len() > api.MaxText {
			return "", api.ErrLarge
		}
	}
	return b.String(), api.OK
}

// ReadLoad reads rows.
func ReadLoad(text string) ([][]string, int, api.Errno) {
	var rows [][]string
	at, e := lines.Each(text, func(line string) bool {
		row, ok := readRow(line)
		rows = append(rows, row)
		return ok
	})
	if e == api.OK {
		e = checkRows(rows)
	}
	if e != api.OK {
		return nil, at, e
	}
	return rows, 0, api.OK
}

// readRow reads the cells of a line; there is at least one.
func readRow(line string) ([]string, bool) {
	var row []string
	for {
		cell, rest, ok := readCell(line)
		if !ok {
			return nil, false
		}
		row = append(row, cell)
		if rest == "" {
			return row, true
		}
		line, ok = strings.CutPrefix(rest, nextSign)
		if !ok {
			return nil, false
		}
	}
}

// readCell reads a cell at the beginning of a line, and returns what comes after it.
func readCell(line string) (cell, rest string, ok bool) {
	line, ok = strings.CutPrefix(line, cellSign)
	if !ok {
		return "", "", false
	}
	var b strings.Builder
	for line != "" {
		c, long := readSign(line)
		if long == 0 {
			rest, ok = strings.CutPrefix(line, cellSign)
			return b.String(), rest, ok
		}
		b.WriteString(c)
		line = line[long:]
	}
	return "", "", false
}

// readSign reads a byte of a cell, and returns how long its written form is; 0 if it is the end of the cell, or wrong.
func readSign(line string) (string, int) {
	switch {
	case strings.HasPrefix(line, cellSign+cellSign):
		return cellSign, len(cellSign + cellSign)
	case strings.HasPrefix(line, escape+escape):
		return escape, len(escape + escape)
	case strings.HasPrefix(line, escape+feedAfter):
		return lineFeed, len(escape + feedAfter)
	case strings.HasPrefix(line, cellSign) || strings.HasPrefix(line, escape):
		return "", 0
	}
	return line[:1], 1
}
