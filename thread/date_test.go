package thread_test

import (
	"math"
	"math/rand/v2"
	"testing"
	"time"

	"paperchase/api"
	"paperchase/thread"
)

const dateForm = "Mon, 2 Jan 2006 15:04 -0700"

func start() time.Time { return time.Date(2024, 1, 1, 0, 0, 0, 0, time.UTC) }

// P2.3
func TestPrintDate(t *testing.T) {
	for at := 0; at < api.End; at += 719 {
		s, e := thread.PrintDate(at)
		is(t, []any{s, e}, []any{start().Add(time.Duration(at) * time.Minute).Format(dateForm), api.OK})
		back, e := thread.Date(s)
		is(t, []any{back, e}, []any{at, api.OK})
	}
	s, e := thread.PrintDate(api.End - 1)
	is(t, []any{s, e}, []any{"Thu, 14 Dec 2034 23:59 +0000", api.OK})
	for _, at := range []int{-1, api.End, math.MinInt, math.MaxInt} {
		s, e := thread.PrintDate(at)
		fails(t, e, api.ErrArg, s)
	}
}

// P2.3
func TestDate(t *testing.T) {
	for text, want := range map[string]int{
		"Mon, 1 Jan 2024 00:00 +0000":  0,
		"Mon, 1 Jan 2024 00:00 -0000":  0,
		"Mon, 1 Jan 2024 14:59 +1459":  0,
		"Sun, 31 Dec 2023 23:59 -0001": 0,
		"Sun, 31 Dec 2023 10:00 -1400": 0,
		"Thu, 29 Feb 2024 00:01 +0000": 59*1440 + 1,
		"Thu, 1 Feb 2024 02:30 +0130":  31*1440 + 60,
		"Thu, 14 Dec 2034 23:59 +0000": api.End - 1,
		"Fri, 15 Dec 2034 14:58 +1459": api.End - 1,
	} {
		at, e := thread.Date(text)
		is(t, []any{at, e}, []any{want, api.OK})
	}
	for _, text := range []string{
		"Mon, 1 Jan 2024 00:00 +0001", "Sun, 31 Dec 2023 23:59 +0000", "Fri, 15 Dec 2034 00:00 +0000", "Thu, 14 Dec 2034 23:59 -0001",
		"Fri, 31 Dec 9999 23:59 +0000", "Sat, 1 Jan 0000 00:00 +0000", "Tue, 29 Feb 1600 00:00 +0000", "Wed, 28 Feb 1900 00:00 +0000",
	} {
		at, e := thread.Date(text)
		fails(t, e, api.ErrArg, at)
	}
}

// P2.3
func TestDateErrors(t *testing.T) {
	for _, text := range []string{
		"", " ", "Thu", "Thu, 1 Feb 2024 02:30", "Thu, 1 Feb 2024 02:30 +0100 ", " Thu, 1 Feb 2024 02:30 +0100", "Thu,  1 Feb 2024 02:30 +0100", "Thu, 1 Feb 2024 02:30 +0100\n", "Thu, 1 Feb 2024 02:30 +0100 x",
		"Wed, 1 Feb 2024 02:30 +0100", "thu, 1 Feb 2024 02:30 +0100", "Thu 1 Feb 2024 02:30 +0100", "Thu,1 Feb 2024 02:30 +0100", "Thursday, 1 Feb 2024 02:30 +0100", "hu,, 1 Feb 2024 02:30 +0100", "onT, 1 Jan 2024 00:00 +0000",
		"Thu, 01 Feb 2024 02:30 +0100", "Thu, +1 Feb 2024 02:30 +0100", "Thu, -1 Feb 2024 02:30 +0100", "Wed, 0 Feb 2024 02:30 +0100", "Thu, 001 Feb 2024 02:30 +0100", "Thu, x Feb 2024 02:30 +0100", "Thu,  Feb 2024 02:30 +0100",
		"Fri, 30 Feb 2024 02:30 +0100", "Sat, 29 Feb 2025 02:30 +0100", "Thu, 29 Feb 1900 00:00 +0000", "Wed, 31 Apr 2024 02:30 +0100", "Thu, 32 Feb 2024 02:30 +0100", "Thu, 32 Jan 2024 02:30 +0100", "Sat, 31 Nov 2024 02:30 +0100",
		"Thu, 1 feb 2024 02:30 +0100", "Thu, 1 FEB 2024 02:30 +0100", "Thu, 1 February 2024 02:30 +0100", "Thu, 1 anF 2024 02:30 +0100", "Thu, 1 2 2024 02:30 +0100", "Thu, 1  2024 02:30 +0100",
		"Thu, 1 Feb 24 02:30 +0100", "Tue, 1 Feb 24 02:30 +0100", "Tue, 1 Feb 0 02:30 +0100", "Thu, 1 Feb 02024 02:30 +0100", "Thu, 1 Feb +024 02:30 +0100", "Thu, 1 Feb 2O24 02:30 +0100",
		"Thu, 1 Feb 2024 2:30 +0100", "Thu, 1 Feb 2024 02:3 +0100", "Thu, 1 Feb 2024 24:00 +0100", "Thu, 1 Feb 2024 02:60 +0100", "Thu, 1 Feb 2024 0230 +0100", "Thu, 1 Feb 2024 02:30:00 +0100", "Thu, 1 Feb 2024 02.30 +0100", "Thu, 1 Feb 2024 +2:30 +0100", "Thu, 1 Feb 2024 02:-1 +0100", "Thu, 1 Feb 2024 : +0100",
		"Thu, 1 Feb 2024 02:30 0100", "Thu, 1 Feb 2024 02:30 00100", "Thu, 1 Feb 2024 02:30 +100", "Thu, 1 Feb 2024 02:30 +01000", "Thu, 1 Feb 2024 02:30 +1500", "Thu, 1 Feb 2024 02:30 -1500", "Thu, 1 Feb 2024 02:30 +0160", "Thu, 1 Feb 2024 02:30 +01:0", "Thu, 1 Feb 2024 02:30 +", "Thu, 1 Feb 2024 02:30 GMT", "Thu, 1 Feb 2024 02:30 ++100",
		"Mon, 31 Dec 2023 00:00 +0000",
	} {
		at, e := thread.Date(text)
		if e != api.ErrSyntax {
			t.Errorf("%q", text)
		}
		fails(t, e, api.ErrSyntax, at)
	}
}

// P2.3: all dates of the calendar, in all zones.
func TestDateOfAnything(t *testing.T) {
	r := rand.New(rand.NewPCG(2, 3))
	for range 20_000 {
		year := r.IntN(10_000)
		if r.IntN(2) == 0 {
			year = 2023 + r.IntN(13)
		}
		offset := (r.IntN(15)*60 + r.IntN(60)) * (1 - 2*r.IntN(2))
		when := time.Date(year, time.Month(1+r.IntN(12)), 1+r.IntN(28), r.IntN(24), r.IntN(60), 0, 0, time.FixedZone("", offset*60))
		at, e := thread.Date(when.Format(dateForm))
		want := (when.Unix() - start().Unix()) / 60
		if want < 0 || want >= api.End {
			fails(t, e, api.ErrArg, at)
		} else {
			is(t, []any{at, e}, []any{int(want), api.OK})
		}
	}
}
