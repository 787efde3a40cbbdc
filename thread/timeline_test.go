package thread_test

import (
	"math"
	"strings"
	"testing"

	"paperchase/api"
	"paperchase/thread"
)

// P2.11
func TestTimeline(t *testing.T) {
	l := []api.Mail{
		mail("z", 5, "", "b a"),
		mail("c", 30, "", "x b"),
		from(mail("d", 1470, "", "c"), "cy", ""),
		mail("e", 40, "Other", ""),
		from(mail("a", 30, "", "y"), "bo", ""),
		mail("g", 1471, "", "y q"),
	}
	for n, want := range []string{
		"? y\n" +
			"Mon, 1 Jan 2024 00:05     ann@b.de\n" +
			"Mon, 1 Jan 2024 00:30   bo@b.de\n" +
			"? x\n? b\n" +
			"Mon, 1 Jan 2024 00:30     ann@b.de\n" +
			"Tue, 2 Jan 2024 00:30       cy@b.de\n" +
			"? q\n" +
			"Tue, 2 Jan 2024 00:31     ann@b.de\n",
		"Mon, 1 Jan 2024 00:40 ann@b.de\n",
	} {
		s, e := thread.Timeline(l, 0, n)
		is(t, []any{s, e}, []any{want, api.OK})
	}
	for _, n := range []int{-1, 2, math.MinInt, math.MaxInt} {
		s, e := thread.Timeline(l, 0, n)
		fails(t, e, api.ErrNone, s)
	}
	s, e := thread.Timeline(nil, 0, 0)
	fails(t, e, api.ErrNone, s)
	eachBadList(t, func(l []api.Mail) (any, api.Errno) { return thread.Timeline(l, -1, -1) })
	keepsArguments(t, func(l []api.Mail) { thread.Timeline(l, 5, 0) })
}

// P2.11: the string has at most MaxText bytes.
func TestTimelineBound(t *testing.T) {
	l := letters(api.MaxItems)
	for i := range l {
		l[i].At, l[i].Refs = 0, words("root")
		l[i].From.Mail = strings.Repeat("a", 40) + "@" + strings.Repeat("b", 30) + ".ded"
	}
	line := "Mon, 1 Jan 2024 00:00   " + l[0].From.Mail + "\n"
	is(t, len(line), 100)
	s, e := thread.Timeline(l, 0, 0)
	fails(t, e, api.ErrLarge, s)
	l[0].From.Mail = strings.TrimPrefix(l[0].From.Mail, strings.Repeat("a", len("? root\n")-1))
	s, e = thread.Timeline(l, 0, 0)
	fails(t, e, api.ErrLarge, s)
	l[0].From.Mail = l[0].From.Mail[1:]
	s, e = thread.Timeline(l, 0, 0)
	is(t, []any{len(s), strings.Count(s, line), e}, []any{api.MaxText, api.MaxItems - 1, api.OK})
}
