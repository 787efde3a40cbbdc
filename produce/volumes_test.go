package produce_test

import (
	"math/rand/v2"
	"slices"
	"strings"
	"testing"

	"paperchase/api"
	"paperchase/produce"
)

// P8.7
func TestVolumes(t *testing.T) {
	a, e, f := "a b c d", "e", "f g" // 5, 3 and 2 pages
	for most, want := range map[int][]string{
		1: {a, e, f}, 2: {a, e, f}, 4: {a, e, f},
		5: {a, e + " " + f}, 7: {a, e + " " + f},
		8: {a + " " + e, f}, 9: {a + " " + e, f},
		10: {a + " " + e + " " + f}, 100_000: {a + " " + e + " " + f},
	} {
		var l [][]string
		for _, s := range want {
			l = append(l, words(s))
		}
		got, errno := produce.Volumes(production(), most)
		gives(t, got, errno, l)
	}
	p := production() // a small family before one that is too large, and one after it
	p.Sheets = append([]api.Sheet{sheet("z", "z", api.SheetShown, 5, "x")}, p.Sheets...)
	got, errno := produce.Volumes(p, 4)
	gives(t, got, errno, [][]string{words("z"), words(a), words("e"), words(f)})
	for _, most := range outside(1, 100_000) {
		got, errno := produce.Volumes(production(), most)
		fails(t, errno, api.ErrArg, got)
	}
	eachBadProduction(t, func(p api.Production) (api.Errno, []any) {
		got, errno := produce.Volumes(p, 0)
		return errno, []any{got}
	})
	p = roomy(production())
	keeps(t, func() []any {
		got, _ := produce.Volumes(p, 7)
		return []any{got}
	}, p)
}

// P8.7: each volume has as many families as it can.
func TestVolumesRandom(t *testing.T) {
	r := rand.New(rand.NewPCG(8, 7))
	for range 2_000 {
		p := api.Production{No: 1, Prefix: "A", Digits: 4}
		last, top := 0, ""
		pages := map[string]int{} // of families
		var all []string
		for i := range 1 + r.IntN(9) {
			id := name("i", i)
			if top == "" || r.IntN(2) == 0 {
				top = id
			}
			s := sheet(id, top, api.SheetShown, last, make([]string, 1+r.IntN(4))...)
			last = s.To
			pages[top] += len(s.Pages)
			all = append(all, id)
			p.Sheets = append(p.Sheets, s)
		}
		most := 1 + r.IntN(9)
		got, e := produce.Volumes(p, most)
		is(t, e, api.OK)
		is(t, slices.Concat(got...), all)
		for i, volume := range got {
			sum, tops := 0, 0
			for _, id := range volume {
				sum += pages[id]
				tops += min(1, pages[id])
			}
			is(t, pages[volume[0]] > 0, true)                                              // it begins with a family
			is(t, sum <= most || tops == 1, true)                                          // it is not too large
			is(t, i == len(got)-1 || sum+pages[got[min(i+1, len(got)-1)][0]] > most, true) // the next one had no room
		}
	}
}

func windows(numbers ...int) []api.Window {
	var l []api.Window
	for i := 0; i < len(numbers); i += 2 {
		l = append(l, api.Window{From: numbers[i], To: numbers[i+1]})
	}
	return l
}

// P8.7
func TestGaps(t *testing.T) {
	for prefix, want := range map[string][]api.Window{
		"AB": windows(1, 2, 5, 7, 18, 20), "C": nil, "D": nil, "A": nil, "ABC": nil,
	} {
		got, e := produce.Gaps(matter(), prefix)
		gives(t, got, e, want)
	}
	got, e := produce.Gaps(nil, "AB")
	gives(t, got, e, windows())
	got, e = produce.Gaps([]api.Production{single(1, "AB", 9, "a", 999_999_999, 999_999_999)}, "AB")
	gives(t, got, e, windows(1, 999_999_999))
	for _, prefix := range badPrefixes() {
		got, e := produce.Gaps(matter(), prefix)
		fails(t, e, api.ErrForm, got)
	}
	eachBadList(t, func(l []api.Production) (api.Errno, []any) {
		got, e := produce.Gaps(l, "")
		return e, []any{got}
	})
	l := roomy(matter())
	keeps(t, func() []any {
		got, _ := produce.Gaps(l, "AB")
		return []any{got}
	}, l)
}

// P8.7: Gaps is as the document's words say, number by number.
func TestGapsRandom(t *testing.T) {
	r := rand.New(rand.NewPCG(8, 77))
	for range 3_000 {
		taken := map[string][]bool{"A": make([]bool, 50), "B": make([]bool, 50)}
		var l []api.Production
		for range r.IntN(9) {
			prefix, from := pick(r, "A", "A", "B"), 1+r.IntN(40)
			to := from + r.IntN(8)
			if slices.Contains(taken[prefix][from:to+1], true) {
				continue
			}
			for n := from; n <= to; n++ {
				taken[prefix][n] = true
			}
			l = append(l, single(len(l)+1, prefix, 4+r.IntN(6), name("i", len(l)), from, to))
		}
		for prefix, has := range taken {
			var want []api.Window
			greatest := 49
			for greatest > 0 && !has[greatest] {
				greatest--
			}
			for n := 1; n < greatest; n++ {
				switch {
				case has[n]:
				case n > 1 && !has[n-1]:
					want[len(want)-1].To = n + 1
				default:
					want = append(want, api.Window{From: n, To: n + 1})
				}
			}
			got, e := produce.Gaps(l, prefix)
			gives(t, got, e, want)
		}
	}
}

// P8.7
func TestUnseen(t *testing.T) {
	p := production()
	p.Sheets[4].Pages[1] = []string{"x", "four x-4 Größe\xc3\x89 über_all"}
	for list, want := range map[string]string{
		"": "", "one": "a", "two": "a", "three": "d", "three two": "a d", "five three nine": "d e",
		"x": "e", "4": "e", "five": "e", "über": "e", "all": "e", "größeÉ": "e",
		"with": "", "held": "", "wanted": "", "recalled": "", // of other kinds
		"tw": "", "fou": "", "größe": "", "zwei": "",
	} {
		got, e := produce.Unseen(p, words(list))
		gives(t, got, e, words(want))
	}
	got, e := produce.Unseen(p, []string{"one", "one"})
	gives(t, got, e, words("a"))
	got, e = produce.Unseen(p, []string{"\xff", "Über", strings.Repeat("k", 1_000)})
	gives(t, got, e, words(""))
	long := make([]string, api.MaxTerms+1)
	for i := range long {
		long[i] = "one"
	}
	got, e = produce.Unseen(p, long[1:])
	gives(t, got, e, words("a"))
	long[0] = ""
	got, e = produce.Unseen(p, long)
	fails(t, e, api.ErrLarge, got)
	for _, word := range []string{"", " ", "-", "One", "ONE", " one", "one ", "one two", "one-two", "one\n", "ÜbeR"} {
		got, e := produce.Unseen(p, []string{"one", word})
		fails(t, e, api.ErrForm, got)
	}
	eachBadProduction(t, func(p api.Production) (api.Errno, []any) {
		got, e := produce.Unseen(p, long)
		return e, []any{got}
	})
	p, l := roomy(production()), roomy(words("one three"))
	keeps(t, func() []any {
		got, _ := produce.Unseen(p, l)
		return []any{got}
	}, p, l)
}
