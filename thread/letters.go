// Package thread has letters, addresses, conversations and quotes.
package thread

import (
	"slices"

	"paperchase/api"
	"paperchase/shape"
)

const maxSubject = 200

// Check validates a letter.
func Check(m api.Mail) api.Errno {
	switch {
	case !shape.MessageId(m.Id):
		return api.ErrForm
	case !shape.Moment(m.At):
		return api.ErrArg
	case !isAddress(m.From):
		return api.ErrForm
	}
	if e := checkReceivers(m); e != api.OK {
		return e
	}
	if e := checkRefs(m); e != api.OK {
		return e
	}
	if len(m.Subject) > maxSubject || !shape.Plain(m.Subject) {
		return api.ErrForm
	}
	return shape.CheckBody(m.Body)
}

func checkReceivers(m api.Mail) api.Errno {
	if len(m.To)+len(m.Cc) > api.MaxParties {
		return api.ErrLarge
	}
	seen := map[string]bool{}
	for _, a := range slices.Concat(m.To, m.Cc) {
		if !isAddress(a) {
			return api.ErrForm
		}
		if seen[a.Mail] {
			return api.ErrTwice
		}
		seen[a.Mail] = true
	}
	return api.OK
}

func checkRefs(m api.Mail) api.Errno {
	if len(m.Refs) > api.MaxRefs {
		return api.ErrLarge
	}
	for i, ref := range m.Refs {
		switch {
		case !shape.MessageId(ref):
			return api.ErrForm
		case slices.Contains(m.Refs[:i], ref):
			return api.ErrTwice
		case ref == m.Id:
			return api.ErrLoop
		}
	}
	return api.OK
}

// CheckMails validates letters.
func CheckMails(l []api.Mail) api.Errno {
	if len(l) > api.MaxItems {
		return api.ErrLarge
	}
	seen := map[string]bool{}
	size := 0
	for _, m := range l {
		if e := Check(m); e != api.OK {
			return e
		}
		if seen[m.Id] {
			return api.ErrTwice
		}
		seen[m.Id] = true
		size += len(m.Body)
	}
	if size > api.MaxBodyBytes {
		return api.ErrLarge
	}
	return api.OK
}

// Parties returns the addresses of a letter.
func Parties(m api.Mail) ([]string, api.Errno) {
	if e := Check(m); e != api.OK {
		return nil, e
	}
	return partiesOf(m), api.OK
}

// partiesOf returns the addresses of letters, sorted, each once.
func partiesOf(l ...api.Mail) []string {
	var mails []string
	for _, m := range l {
		mails = append(mails, m.From.Mail)
		for _, a := range slices.Concat(m.To, m.Cc) {
			mails = append(mails, a.Mail)
		}
	}
	slices.Sort(mails)
	return slices.Compact(mails)
}

// Between returns the numbers of letters that have both of two addresses.
func Between(l []api.Mail, a, b string) ([]int, api.Errno) {
	if e := CheckMails(l); e != api.OK {
		return nil, e
	}
	if !shape.Address(a) || !shape.Address(b) {
		return nil, api.ErrForm
	}
	var numbers []int
	for i, m := range l {
		mails := partiesOf(m)
		if slices.Contains(mails, a) && slices.Contains(mails, b) {
			numbers = append(numbers, i)
		}
	}
	return numbers, api.OK
}
