package ratio

import (
	"testing"

	"paperchase/api"
)

func TestLowest(t *testing.T) {
	for _, c := range []struct {
		num, den int
		want     api.Fraction
	}{
		{0, 1, api.Fraction{Num: 0, Den: 1}},
		{0, 9, api.Fraction{Num: 0, Den: 1}},
		{1, 1, api.Fraction{Num: 1, Den: 1}},
		{6, 3, api.Fraction{Num: 2, Den: 1}},
		{3, 6, api.Fraction{Num: 1, Den: 2}},
		{12, 18, api.Fraction{Num: 2, Den: 3}},
		{7, 9, api.Fraction{Num: 7, Den: 9}},
		{9, 7, api.Fraction{Num: 9, Den: 7}},
		{-3, 6, api.Fraction{Num: -1, Den: 2}},
		{-18, 12, api.Fraction{Num: -3, Den: 2}},
		{-1, 5, api.Fraction{Num: -1, Den: 5}},
		{1 << 60, 1 << 62, api.Fraction{Num: 1, Den: 4}},
	} {
		if got := Lowest(c.num, c.den); got != c.want {
			t.Errorf("%d, %d: got %v, want %v", c.num, c.den, got, c.want)
		}
	}
}

func TestPart(t *testing.T) {
	for _, c := range []struct {
		some, all int
		want      api.Fraction
	}{
		{0, 0, api.Fraction{Num: 1, Den: 1}},
		{0, 4, api.Fraction{Num: 0, Den: 1}},
		{2, 4, api.Fraction{Num: 1, Den: 2}},
		{4, 4, api.Fraction{Num: 1, Den: 1}},
	} {
		if got := Part(c.some, c.all); got != c.want {
			t.Errorf("%d, %d: got %v, want %v", c.some, c.all, got, c.want)
		}
	}
}
