package sample

import (
	"paperchase/api"
	"paperchase/ratio"
)

// Recall returns which part of what is relevant is known.
func Recall(found int, rest api.Drawn) (api.Fraction, api.Errno) {
	if e := checkKnown(found, rest); e != api.OK {
		return api.Fraction{}, e
	}
	return known(found*rest.Sample, rest.Population*rest.Found)
}

// SureRecall returns which part of what is relevant is known, as far as it is sure.
func SureRecall(found int, rest api.Drawn, level api.Fraction) (api.Fraction, api.Errno) {
	if e := checkKnown(found, rest); e != api.OK {
		return api.Fraction{}, e
	}
	if e := CheckLevel(level); e != api.OK {
		return api.Fraction{}, e
	}
	return known(found, most(rest, level))
}

func checkKnown(found int, rest api.Drawn) api.Errno {
	if !isMany(found) {
		return api.ErrArg
	}
	return CheckDrawn(rest)
}

// known returns which part what is known is of this and what is missed.
func known(found, missed int) (api.Fraction, api.Errno) {
	if found+missed == 0 {
		return api.Fraction{}, api.ErrRule
	}
	return ratio.Lowest(found, found+missed), api.OK
}

// Elusion returns which part of a sample is relevant.
func Elusion(rest api.Drawn) (api.Fraction, api.Errno) {
	if e := CheckDrawn(rest); e != api.OK {
		return api.Fraction{}, e
	}
	return ratio.Lowest(rest.Found, rest.Sample), api.OK
}

// Estimate returns how many relevant items several samples tell of.
func Estimate(l []api.Drawn) (api.Fraction, api.Errno) {
	if len(l) > api.MaxStrata {
		return api.Fraction{}, api.ErrLarge
	}
	sum := ratio.Lowest(0, 1)
	for _, d := range l {
		if e := CheckDrawn(d); e != api.OK {
			return api.Fraction{}, e
		}
		sum = ratio.Lowest(sum.Num*d.Sample+d.Population*d.Found*sum.Den, sum.Den*d.Sample)
	}
	return sum, api.OK
}

// Judge returns measures of what was found.
func Judge(right, wrong, missed int) (api.Measures, api.Errno) {
	if !areCounts(right, wrong, missed) {
		return api.Measures{}, api.ErrArg
	}
	return api.Measures{
		Precision: ratio.Part(right, right+wrong),
		Recall:    ratio.Part(right, right+missed),
		Both:      ratio.Part(2*right, 2*right+wrong+missed),
	}, api.OK
}

// Kappa says how well two agree.
func Kappa(both, first, second, neither int) (api.Fraction, api.Errno) {
	if !areCounts(both, first, second, neither) {
		return api.Fraction{}, api.ErrArg
	}
	all := both + first + second + neither
	if all == 0 {
		return api.Fraction{}, api.ErrNone
	}
	agreed := both + neither
	byChance := (both+first)*(both+second) + (second+neither)*(first+neither)
	return ratio.Part(agreed*all-byChance, all*all-byChance), api.OK
}

func areCounts(l ...int) bool {
	for _, n := range l {
		if n < 0 || n > api.MaxCounts {
			return false
		}
	}
	return true
}
