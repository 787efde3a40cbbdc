// Package produce makes productions: pages, numbers and load files.
package produce

import (
	"strconv"
	"strings"

	"paperchase/api"
)

const (
	capitals  = "ABCDEFGHIJKLMNOPQRSTUVWXYZ"
	maxPrefix = 8
	minDigits = 4
	maxDigits = 9
)

// checkSeries validates what numbers have in common.
func checkSeries(prefix string, digits int) api.Errno {
	if !isPrefix(prefix) {
		return api.ErrForm
	}
	if digits < minDigits || digits > maxDigits {
		return api.ErrArg
	}
	return api.OK
}

func isPrefix(s string) bool {
	return s != "" && len(s) <= maxPrefix && strings.Trim(s, capitals) == ""
}

// greatest returns the greatest number with so many digits.
func greatest(digits int) int {
	n := 1
	for range digits {
		n *= 10
	}
	return n - 1
}

// Number writes a number.
func Number(prefix string, digits, n int) (string, api.Errno) {
	if e := checkSeries(prefix, digits); e != api.OK {
		return "", e
	}
	if n < 1 || n > greatest(digits) {
		return "", api.ErrArg
	}
	return prefix + padded(n, digits), api.OK
}

// padded writes a number that has at most so many digits with all of them.
func padded(n, digits int) string {
	s := strconv.Itoa(n)
	return strings.Repeat("0", digits-len(s)) + s
}

// ReadNumber returns the parts of a number.
func ReadNumber(text string) (prefix string, digits, n int, e api.Errno) {
	rest := strings.TrimLeft(text, capitals)
	prefix = text[:len(text)-len(rest)]
	n, err := strconv.Atoi(rest)
	// Atoi also takes signs in front, which are written otherwise.
	written, e := Number(prefix, len(rest), n)
	if err != nil || e != api.OK || written != text {
		return "", 0, 0, api.ErrSyntax
	}
	return prefix, len(rest), n, api.OK
}
