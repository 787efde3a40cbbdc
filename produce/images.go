package produce

import (
	"strconv"
	"strings"

	"paperchase/api"
)

// The words of lines of images.
const (
	cellEnd      = ","
	volumeWord   = "VOL"
	volumeDigits = 3
	firstSign    = "Y"
)

// Images writes a line for each page of a production.
func Images(p api.Production, volume int) (string, api.Errno) {
	if e := Check(p); e != api.OK {
		return "", e
	}
	if volume < 1 || volume > greatest(volumeDigits) {
		return "", api.ErrArg
	}
	name := volumeWord + padded(volume, volumeDigits)
	var b strings.Builder
	for _, s := range p.Sheets {
		for n := s.From; n <= s.To; n++ {
			first, pages := "", ""
			if n == s.From {
				first, pages = firstSign, strconv.Itoa(many(s))
			}
			b.WriteString(strings.Join([]string{numberOf(p, n), name, first, pages}, cellEnd) + lineFeed)
			if b.Len() > api.MaxText {
				return "", api.ErrLarge
			}
		}
	}
	return b.String(), api.OK
}
