package intake

import (
	"strconv"
	"strings"

	"paperchase/api"
)

const (
	hashOffset  = 14695981039346656037
	hashPrime   = 1099511628211
	digestLong  = 16
	hexDigits   = "0123456789abcdef"
	escapedLong = 4 // a backslash, an x, two digits
)

// Quote writes a string without blanks, line feeds and what is not visible.
func Quote(s string) string {
	b := []byte{'"'}
	for i := range len(s) {
		b = append(b, quoteByte(s[i])...)
	}
	return string(append(b, '"'))
}

func quoteByte(c byte) string {
	switch {
	case c == '"' || c == '\\':
		return `\` + string(rune(c))
	case c == '\n':
		return `\n`
	case c < 33 || c >= 127:
		return `\x` + hexDigits[c>>4:c>>4+1] + hexDigits[c&15:c&15+1]
	}
	return string(rune(c))
}

// Unquote reads a quoted string at the beginning of s, and returns how long its quoted form is.
func Unquote(s string) (string, int, api.Errno) {
	if s == "" || s[0] != '"' {
		return "", 0, api.ErrSyntax
	}
	var b []byte
	for at := 1; at < len(s); {
		if s[at] == '"' {
			return string(b), at + 1, api.OK
		}
		c, long := unquoteByte(s[at:])
		if long == 0 {
			break
		}
		b = append(b, c)
		at += long
	}
	return "", 0, api.ErrSyntax
}

// unquoteByte returns the byte with whose quoted form s begins, and how long this form is; 0 if there is none.
func unquoteByte(s string) (byte, int) {
	c := unescape(s)
	quoted := quoteByte(c)
	// Quote writes each byte in one way, so that other escapes of the same byte are no quotes.
	if !strings.HasPrefix(s, quoted) {
		return 0, 0
	}
	return c, len(quoted)
}

// unescape guesses the byte that s begins with; s may have another form.
func unescape(s string) byte {
	switch {
	case s[0] != '\\' || len(s) < 2:
		return s[0]
	case s[1] == 'n':
		return '\n'
	case s[1] == 'x' && len(s) >= escapedLong:
		n, _ := strconv.ParseUint(s[2:escapedLong], 16, 8)
		return byte(n)
	}
	return s[1]
}

// Digest is the FNV-1a hash of a string.
func Digest(s string) string {
	h := uint64(hashOffset)
	for i := range len(s) {
		h ^= uint64(s[i])
		h *= hashPrime
	}
	digits := strconv.FormatUint(h, 16)
	return strings.Repeat("0", digestLong-len(digits)) + digits
}

func isDigest(s string) bool {
	return len(s) == digestLong && strings.Trim(s, hexDigits) == ""
}
