package thread

import (
	"strings"

	"paperchase/api"
	"paperchase/shape"
)

const (
	maxAddressText   = 500
	maxAddressesText = 20_000
	maxNameOfAddress = 60
	noNameSigns      = "\"<>,;"
)

// Address reads an address.
func Address(text string) (api.Address, api.Errno) {
	if len(text) > maxAddressText {
		return api.Address{}, api.ErrLarge
	}
	a, ok := readAddress(text)
	if !ok {
		return api.Address{}, api.ErrSyntax
	}
	return a, api.OK
}

// readAddress reads an address that can have any number of blanks.
func readAddress(text string) (api.Address, bool) {
	name, mail := "", strings.Trim(text, " ")
	if start := strings.LastIndexByte(mail, '<'); start >= 0 {
		before, right := readName(mail[:start])
		inside, ended := strings.CutSuffix(mail[start+1:], ">")
		if !right || !ended {
			return api.Address{}, false
		}
		name, mail = before, inside
	}
	a := api.Address{Name: name, Mail: shape.Small(mail)}
	if !shape.Address(a.Mail) {
		return api.Address{}, false
	}
	return a, true
}

// readName reads what is before the sign `<`: nothing, or a name and at least one blank.
func readName(text string) (string, bool) {
	if text == "" {
		return "", true
	}
	name := strings.TrimRight(text, " ")
	if name == text {
		return "", false
	}
	if inside, quoted := strings.CutPrefix(name, `"`); quoted {
		return readQuotedName(inside)
	}
	return name, isName(name)
}

// readQuotedName reads a name from after its first quotation mark on.
func readQuotedName(text string) (string, bool) {
	name, ended := strings.CutSuffix(text, `"`)
	if family, first, both := strings.Cut(name, ", "); both {
		// If one of them is empty or has blanks at its ends, this is not plain.
		name = first + " " + family
	}
	return name, ended && name != "" && isName(name)
}

// isName says whether a string has the form of the Name of an address, which can be empty.
func isName(s string) bool {
	return len(s) <= maxNameOfAddress && shape.Plain(s) && !strings.ContainsAny(s, noNameSigns)
}

func isAddress(a api.Address) bool { return isName(a.Name) && shape.Address(a.Mail) }

// Addresses reads several addresses.
func Addresses(text string) ([]api.Address, api.Errno) {
	if len(text) > maxAddressesText {
		return nil, api.ErrLarge
	}
	parts := addressParts(text)
	if len(parts) > api.MaxParties {
		return nil, api.ErrLarge
	}
	var l []api.Address
	seen := map[string]bool{}
	for _, part := range parts {
		a, ok := readAddress(part)
		if !ok {
			return nil, api.ErrSyntax
		}
		if !seen[a.Mail] {
			l = append(l, a)
		}
		seen[a.Mail] = true
	}
	return l, api.OK
}

// addressParts returns what stands between the signs that separate addresses, without parts of blanks alone.
func addressParts(text string) []string {
	var l []string
	start, quoted := 0, false
	take := func(end int) {
		if part := text[start:end]; !isBlank(part) {
			l = append(l, part)
		}
		start = end + 1
	}
	for i := range len(text) {
		switch text[i] {
		case '"':
			quoted = !quoted
		case ',', ';':
			if !quoted {
				take(i)
			}
		}
	}
	take(len(text))
	return l
}

// PrintAddress writes an address.
func PrintAddress(a api.Address) (string, api.Errno) {
	if !isAddress(a) {
		return "", api.ErrForm
	}
	return addressText(a), api.OK
}

func addressText(a api.Address) string {
	if a.Name == "" {
		return a.Mail
	}
	return a.Name + " <" + a.Mail + ">"
}
