package produce

import (
	"slices"
	"strings"
	"unicode/utf8"

	"paperchase/api"
	"paperchase/shape"
)

const (
	blank    = " "
	lineFeed = "\n"
)

// Wrap returns the lines of a text for pages.
func Wrap(text string) ([]string, api.Errno) {
	if e := shape.CheckBody(text); e != api.OK {
		return nil, e
	}
	return wrap(text), api.OK
}

func wrap(text string) []string {
	var pieces []string
	for line := range strings.Lines(text) {
		line = strings.TrimSuffix(line, lineFeed)
		for len(line) > api.PageWide {
			end, next := cut(line)
			pieces = append(pieces, line[:end])
			line = line[next:]
		}
		pieces = append(pieces, line)
	}
	return pieces
}

// cut returns where the first piece of a long line ends, and where the next one begins.
func cut(line string) (end, next int) {
	end = strings.LastIndex(line[:api.PageWide+1], blank)
	// If there is something before any blank, it is before the last one.
	if end > 0 && strings.Trim(line[:end], blank) != "" {
		return end, end + len(blank)
	}
	end = api.PageWide
	for !utf8.RuneStart(line[end]) {
		end--
	}
	return end, end
}

// Pages divides a text into pages.
func Pages(text string) ([][]string, api.Errno) {
	if e := shape.CheckBody(text); e != api.OK {
		return nil, e
	}
	return pagesOf(text), api.OK
}

func pagesOf(text string) [][]string {
	pages := slices.Collect(slices.Chunk(wrap(text), api.PageLong))
	if len(pages) == 0 {
		return [][]string{nil}
	}
	return pages
}
