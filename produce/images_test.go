package produce_test

import (
	"strings"
	"testing"

	"paperchase/api"
	"paperchase/produce"
)

// P8.11
func TestImages(t *testing.T) {
	for volume, name := range map[int]string{1: "VOL001", 42: "VOL042", 999: "VOL999"} {
		want := strings.ReplaceAll("AB0007,VOL,Y,2\nAB0008,VOL,,\nAB0009,VOL,Y,1\nAB0010,VOL,Y,1\nAB0011,VOL,Y,1\nAB0012,VOL,Y,3\nAB0013,VOL,,\nAB0014,VOL,,\nAB0015,VOL,Y,1\nAB0016,VOL,Y,1\n", "VOL", name)
		got, e := produce.Images(production(), volume)
		gives(t, got, e, want)
	}
	for _, volume := range outside(1, 999) {
		got, e := produce.Images(production(), volume)
		fails(t, e, api.ErrArg, got)
	}
	eachBadProduction(t, func(p api.Production) (api.Errno, []any) {
		got, e := produce.Images(p, 0)
		return e, []any{got}
	})
	// A line has 10 bytes more than its number, the one of a first page Y and the number of pages, too.
	got, e := produce.Images(single(1, "A", 4, "a", 1, 9_999), 1)
	gives(t, len(got), e, 9_999*15+5)
	for many, want := range map[int]api.Errno{238: api.OK, 239: api.ErrLarge} { // 9,501*21 + 237*2 + 5 is MaxText
		p := api.Production{No: 1, Prefix: "AA", Digits: 9, Sheets: images(9_501, many)}
		is(t, produce.Check(p), api.OK)
		got, e := produce.Images(p, 1)
		is(t, []any{len(got) == api.MaxText, len(got) == 0, e}, []any{want == api.OK, want != api.OK, want})
	}
}

// images are Sheets with so many pages, most of them of the last one.
func images(pages, many int) []api.Sheet {
	var l []api.Sheet
	last := 0
	for i := range many {
		id := name("i", i)
		size := 1
		if i == many-1 {
			size = pages - last
		}
		l = append(l, sheet(id, id, api.SheetShown, last, make([]string, size)...))
		last += size
	}
	return l
}
