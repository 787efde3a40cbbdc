package matter_test

import (
	"math/rand/v2"
	"slices"
	"strings"
	"testing"

	"paperchase/api"
	"paperchase/intake"
	"paperchase/matter"
)

// P10.6
func TestPrintDeeds(t *testing.T) {
	l := deeds("a 5 code x want yes; a 6 code x want; b 7 label x hot; b 0 cover x 0 12; c 5759999 note x é \"n\" \\; c 8 drop b 1; c 9 undo c 2")
	want := `deed a 1 5 code x want "yes" 0 0 - 0 ` + l[0].Sum + `
deed a 2 6 code x want "" 0 0 - 0 ` + l[1].Sum + `
deed b 1 7 label x - "hot" 0 0 - 0 ` + l[2].Sum + `
deed b 2 0 cover x - "" 0 12 - 0 ` + l[3].Sum + `
deed c 1 5759999 note x - "\xc3\xa9\x20\"n\"\x20\\" 0 0 - 0 ` + l[4].Sum + `
deed c 2 8 drop - - "" 0 0 b 1 ` + l[5].Sum + `
deed c 3 9 undo - - "" 0 0 c 2 ` + l[6].Sum + `
`
	text, e := matter.PrintDeeds(l)
	gives(t, text, e, want)
	back, at, e := matter.ParseDeeds(text)
	gives(t, []any{back, at}, e, []any{l, 0})
	text, e = matter.PrintDeeds(nil)
	gives(t, text, e, "")
	back, at, e = matter.ParseDeeds("")
	gives(t, []any{back, at}, e, []any{[]api.Deed{}, 0})
}

// P10.6: at the bound.
func TestPrintDeedsLarge(t *testing.T) {
	long := func(more int) []api.Deed { // the string has so many bytes more than it may have
		var l []api.Deed
		for range 399 {
			l = append(l, api.Deed{Stamp: stamp("abcdefg", 0), At: 1_000_000, Kind: api.DeedNote, Id: "x", Value: strings.Repeat("n", 20)})
		}
		l = append(l, api.Deed{Stamp: stamp("z", 0), Kind: api.DeedNote, Id: "x", Value: "n"})
		l = arranged(l)
		text, e := matter.PrintDeeds(l)
		is(t, e, api.OK)
		// Each é takes eight bytes more.
		short := api.MaxText - len(text) + more
		for i := 0; short > 0; i = (i + 1) % 399 {
			switch d := &l[i]; {
			case len(d.Value) > 198:
			case short >= 8:
				d.Value += "é"
				short -= 8
			default:
				d.Value += strings.Repeat("n", short)
				short = 0
			}
		}
		return sealed(l)
	}
	most := long(0)
	text, e := matter.PrintDeeds(most)
	is(t, []any{len(text), e}, []any{api.MaxText, api.OK})
	back, at, e := matter.ParseDeeds(text)
	gives(t, []any{back, at}, e, []any{most, 0})
	text, e = matter.PrintDeeds(long(1))
	fails(t, e, api.ErrLarge, text)
	for _, c := range []string{" ", "\n"} {
		back, at, e := matter.ParseDeeds(strings.Repeat(c, api.MaxText+1))
		fails(t, e, api.ErrLarge, back, at)
	}
}

// P10.6
func TestParseDeedsErrors(t *testing.T) {
	l := deeds("a 5 code x want yes; a 6 cover x 1 2; b 7 drop a 2")
	text, e := matter.PrintDeeds(l)
	is(t, e, api.OK)
	syntax := func(text string, want int) {
		t.Helper()
		back, at, e := matter.ParseDeeds(text)
		fails(t, e, api.ErrSyntax, back)
		if at != want {
			t.Errorf("%q: line %d, want %d", text, at, want)
		}
	}
	syntax("\n", 0)
	syntax(text+"\n", 3)
	syntax(text+"deed\n", 3)
	syntax(strings.TrimSuffix(text, "\n"), 2)
	syntax("x\n"+text, 0)
	lines := strings.SplitAfter(strings.TrimSuffix(text, "\n"), "\n")
	lines[2] += "\n"
	edit := func(line int, old, new string) {
		t.Helper()
		if !strings.Contains(lines[line], old) {
			t.Fatal(lines[line], old)
		}
		other := slices.Clone(lines)
		other[line] = strings.Replace(other[line], old, new, 1)
		syntax(strings.Join(other, ""), line)
	}
	for _, c := range []struct {
		line     int
		old, new string
	}{
		{0, "deed", "Deed"},
		{0, "deed ", " deed "},
		{0, "deed ", "deed  "},
		{1, "\n", " \n"},
		{1, "\n", " x\n"},
		{1, " " + l[1].Sum, ""},
		{1, l[1].Sum, ""},
		{0, "a 1", "a 01"},
		{0, "a 1", "a +1"},
		{0, "a 1", "a -0"},
		{0, "a 1", "a x"},
		{0, "a 1", "a 1000000000"},
		{0, "a 1", " 1"},
		{0, " 5 ", " 5. "},
		{0, " 5 ", " -1000000000 "},
		{0, "code", "Code"},
		{0, "code", "1"},
		{0, " x ", "  "},
		{0, " want ", "  "},
		{0, `"yes"`, `yes`},
		{0, `"yes"`, `"yes`},
		{0, `"yes"`, `"yes"x`},
		{0, `"yes"`, `"y es"`},
		{0, `"yes"`, `"y\x65s"`}, // not as Quote writes it
		{0, `"yes"`, ``},
		{1, "1 2", "01 2"},
		{1, "1 2", "1 -"},
		{1, " - 0", " - -0"},
		{1, " - 0", "  0"},
		{2, "a 2", "a 2x"},
		{2, "a 2", "a"},
	} {
		edit(c.line, c.old, c.new)
	}
	// What has the form is for CheckDeeds, and then the number of the line is 0.
	for _, c := range []struct {
		line     int
		old, new string
		want     api.Errno
	}{
		{1, " 6 ", " 7 ", api.ErrSum},
		{1, " 6 ", " -1 ", api.ErrArg},
		{1, " 6 ", " 999999999 ", api.ErrArg},
		{1, " x ", " - ", api.ErrName},
		{1, " x ", " X ", api.ErrName},
		{1, "a 2", "- 2", api.ErrName},
		{1, "a 2", "a 3", api.ErrArg},
		{1, "cover", "label", api.ErrForm},
		{1, "cover x -", "cover x y", api.ErrForm},
		{1, " 1 2 ", " -1 2 ", api.ErrForm},
		{1, " - 0 ", " - 1 ", api.ErrForm},
		{1, l[1].Sum, strings.ToUpper(l[1].Sum), api.ErrSum},
		{2, l[2].Sum, "-", api.ErrSum},
	} {
		other := slices.Clone(lines)
		other[c.line] = strings.Replace(other[c.line], c.old, c.new, 1)
		back, at, e := matter.ParseDeeds(strings.Join(other, ""))
		fails(t, e, c.want, back, at)
	}
	back, at, e := matter.ParseDeeds(lines[0] + lines[2])
	fails(t, e, api.ErrNone, back, at)
	back, at, e = matter.ParseDeeds(lines[1])
	fails(t, e, api.ErrArg, back, at)
	back, at, e = matter.ParseDeeds(lines[1] + lines[0])
	fails(t, e, api.ErrArg, back, at)
	back, at, e = matter.ParseDeeds(lines[2] + lines[0])
	fails(t, e, api.ErrOrder, back, at)
}

// P10.6: ErrSyntax comes before the errors of CheckDeeds, and too many deeds are too many.
func TestParseDeedsMany(t *testing.T) {
	line := `deed A 1 1 code x y "" 0 0 - 0 x` + "\n"
	back, at, e := matter.ParseDeeds(line + "\n")
	fails(t, e, api.ErrSyntax, back)
	is(t, at, 1)
	back, at, e = matter.ParseDeeds(line)
	fails(t, e, api.ErrName, back, at)
	back, at, e = matter.ParseDeeds(strings.Repeat(line, api.MaxDeeds+1))
	fails(t, e, api.ErrLarge, back, at)
	r := rand.New(rand.NewPCG(10, 10))
	for range 200 {
		l := someDeeds(r, r.IntN(25))
		text, e := matter.PrintDeeds(l)
		is(t, e, api.OK)
		back, at, e := matter.ParseDeeds(text)
		gives(t, []any{back, at}, e, []any{l, 0})
	}
}

// P10.6: whatever the values are.
func TestPrintDeedsValues(t *testing.T) {
	for _, value := range []string{`"`, `\`, `\n`, "-", "a b c", "é€😀", "x\u0085", "\u2028", "~!@#$%^&*()", strings.Repeat(`"`, 60)} {
		l, e := matter.Add(nil, "a", 1, api.DeedCode, "x", "f", value, api.Span{})
		is(t, e, api.OK)
		text, e := matter.PrintDeeds(l)
		gives(t, text, e, "deed a 1 1 code x f "+intake.Quote(value)+" 0 0 - 0 "+l[0].Sum+"\n")
		back, at, e := matter.ParseDeeds(text)
		gives(t, []any{back, at}, e, []any{l, 0})
	}
}
