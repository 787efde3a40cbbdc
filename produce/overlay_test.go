package produce_test

import (
	"math/rand/v2"
	"slices"
	"strings"
	"testing"

	"paperchase/api"
	"paperchase/produce"
)

// table is the rows of a string: between the signs `;`, with words, of which `-` is empty.
func table(s string) [][]string {
	var l [][]string
	for row := range strings.SplitSeq(s, ";") {
		cells := words(row)
		for i := range cells {
			cells[i] = strings.Trim(cells[i], "-")
		}
		l = append(l, cells)
	}
	return l
}

// P8.10
func TestOverlay(t *testing.T) {
	base := "id x y; 1 a b; 2 c d; 3 e -"
	for over, want := range map[string]string{
		"id":                               base,
		"id; 2; 1":                         base,
		"id x":                             base,
		"id x; 2 X":                        "id x y; 1 a b; 2 X d; 3 e -",
		"id y x; 3 Y X; 1 - P":             "id x y; 1 P -; 2 c d; 3 X Y",
		"id z":                             "id x y z; 1 a b -; 2 c d -; 3 e - -",
		"id z; 1 Z":                        "id x y z; 1 a b Z; 2 c d -; 3 e - -",
		"id b y a; 3 B Y A; 2 B2 - -":      "id x y b a; 1 a b - -; 2 c - B2 -; 3 e Y B A",
		"id x y; 1 1 1; 2 2 2; 3 3 3":      "id x y; 1 1 1; 2 2 2; 3 3 3",
		"id 1 ID -; 2 x y z":               "id x y 1 ID -; 1 a b - - -; 2 c d x y z; 3 e - - - -",
		"id x y; 3 e -; 2 c d; 1 a b":      base,
		"id z y x w; 2 1 2 3 4; 1 5 6 7 8": "id x y z w; 1 7 6 5 8; 2 3 2 1 4; 3 e - - -",
	} {
		got, e := produce.Overlay(table(base), table(over))
		gives(t, got, e, table(want))
		again, e := produce.Overlay(got, table(over)) // made twice is made once
		gives(t, again, e, got)
	}
	got, e := produce.Overlay(table("id x"), table("id z y"))
	gives(t, got, e, table("id x z y"))
	got, e = produce.Overlay(table("id x; id 1; x 2"), table("id z; x 3; id 4")) // heads are no keys
	gives(t, got, e, table("id x z; id 1 4; x 2 3"))
	got, e = produce.Overlay(table("- x; - 1"), table("- z; - 2")) // an empty head, an empty key
	gives(t, got, e, table("- x z; - 1 2"))
	x, y := roomy(table(base)), roomy(table("id z y; 3 Z Y"))
	keeps(t, func() []any {
		got, _ := produce.Overlay(x, y)
		return []any{got}
	}, x, y)
}

// P8.10
func TestOverlayErrors(t *testing.T) {
	eachBadTable(t, func(rows [][]string) (api.Errno, []any) {
		got, e := produce.Overlay(rows, column(api.MaxItems+2, ""))
		return e, []any{got}
	})
	eachBadTable(t, func(rows [][]string) (api.Errno, []any) {
		got, e := produce.Overlay(rows, [][]string{{"\t"}})
		return e, []any{got}
	})
	eachBadTable(t, func(rows [][]string) (api.Errno, []any) {
		got, e := produce.Overlay(nil, rows)
		return e, []any{got}
	})
	wide := func(many int) [][]string {
		row := []string{"id"}
		for i := range many - 1 {
			row = append(row, name("h", i))
		}
		return [][]string{row}
	}
	for _, c := range []struct {
		base, over [][]string
		want       api.Errno
	}{
		{nil, nil, api.ErrNone},
		{nil, table("id id"), api.ErrNone},
		{table("id id"), nil, api.ErrNone},
		{table("id x id"), table("i"), api.ErrTwice},
		{table("id x x"), table("i"), api.ErrTwice},
		{table("id x; 1 a; 2 b; 1 c"), table("i"), api.ErrTwice},
		{table("id"), table("i x x"), api.ErrTwice},
		{table("id"), table("i; 5; 5"), api.ErrTwice},
		{table("id"), table("i; 5"), api.ErrForm},
		{table("id; 1"), table("ID; 1"), api.ErrForm},
		{table("id x; 1 a"), table("x id; a 1"), api.ErrForm},
		{table("id x; 1 5"), table("id x; 5 a"), api.ErrNone},
		{table("id x; 1 5"), table("id y; 1 a; id b"), api.ErrNone},
		{table("id x; 1 5"), table("id y; - a"), api.ErrNone},
		{wide(30), table("id z; 1 a"), api.ErrNone},
		{wide(30), table("id z"), api.ErrLarge},
		{wide(29), table("id z y"), api.ErrLarge},
		{table("id z"), wide(30), api.ErrLarge},
	} {
		got, e := produce.Overlay(c.base, c.over)
		fails(t, e, c.want, got)
	}
	for _, over := range [][][]string{wide(30), table("id z"), table("id h000003")} {
		got, e := produce.Overlay(wide(29), over)
		is(t, []any{len(got[0]) >= 29, e}, []any{true, api.OK})
	}
	got, e := produce.Overlay(wide(30), wide(30))
	gives(t, got, e, wide(30))
	long := [][]string{{"id"}}
	for i := range api.MaxItems {
		long = append(long, []string{name("k", i)})
	}
	got, e = produce.Overlay(long, long)
	gives(t, got, e, long)
	big := [][]string{{strings.Repeat("x", api.MaxText)}} // no limit of bytes
	got, e = produce.Overlay(big, big)
	gives(t, got, e, big)
}

// P8.10: Overlay is as the document's words say, cell by cell.
func TestOverlayRandom(t *testing.T) {
	r := rand.New(rand.NewPCG(8, 10))
	shuffled := func(s string, least int) []string {
		l := words(s)
		r.Shuffle(len(l), func(i, k int) { l[i], l[k] = l[k], l[i] })
		return l[:least+r.IntN(len(l)+1-least)]
	}
	random := func(heads, keys []string) [][]string {
		l := [][]string{append([]string{"id"}, heads...)}
		for _, key := range keys {
			row := []string{key}
			for range heads {
				row = append(row, pick(r, "", "a", "b", "1"))
			}
			l = append(l, row)
		}
		return l
	}
	for range 5_000 {
		keys := shuffled("1 2 3 4", 0)
		base := random(shuffled("u v w x", 0), keys)
		over := random(shuffled("u v y z", 0), shuffled(strings.Join(keys, " "), 0))
		got, e := produce.Overlay(base, over)
		is(t, e, api.OK)
		heads := slices.Clone(base[0])
		for _, head := range over[0] {
			if !slices.Contains(heads, head) {
				heads = append(heads, head)
			}
		}
		is(t, got[0], heads)
		is(t, len(got), len(base))
		for i, row := range got[1:] {
			for k, cell := range row {
				want := ""
				if k < len(base[0]) {
					want = base[i+1][k]
				}
				column := slices.Index(over[0], heads[k])
				for _, y := range over[1:] {
					if y[0] == base[i+1][0] && column >= 0 {
						want = y[column]
					}
				}
				is(t, cell, want)
			}
		}
		again, e := produce.Overlay(got, over)
		gives(t, again, e, got)
	}
}
