package thread

import (
	"strconv"
	"strings"

	"paperchase/api"
	"paperchase/shape"
)

const (
	firstYear   = 2024
	weekLong    = 7
	yearMonths  = 12
	february    = 1 // months count from 0
	hourLong    = 60
	lastHour    = 23
	lastZone    = 14
	zoneBytes   = 5
	yearDigits  = 4
	dateWords   = 6
	nameBytes   = 3
	dayNames    = "MonTueWedThuFriSatSun"
	monthNames  = "JanFebMarAprMayJunJulAugSepOctNovDec"
	homeZone    = " +0000"
	noName      = -1
	shortMonths = "Apr Jun Sep Nov"
)

func nameAt(names string, i int) string { return names[nameBytes*i : nameBytes*(i+1)] }

// nameNumber returns the number of a name; noName if it is none of them.
func nameNumber(names, name string) int {
	for i := range len(names) / nameBytes {
		if nameAt(names, i) == name {
			return i
		}
	}
	return noName
}

func monthLong(year, month int) int {
	leap := year%4 == 0 && (year%100 != 0 || year%400 == 0)
	switch {
	case month == february && leap:
		return 29
	case month == february:
		return 28
	case strings.Contains(shortMonths, nameAt(monthNames, month)):
		return 30
	}
	return 31
}

// dayOf returns the day of a date; it is below 0 before the first one.
func dayOf(year, month, day int) int {
	before := func(year int) int { return 365*year + (year+3)/4 - (year+99)/100 + (year+399)/400 }
	n := before(year) - before(firstYear) + day - 1
	for m := range month {
		n += monthLong(year, m)
	}
	return n
}

// Date reads a date.
func Date(text string) (int, api.Errno) {
	words := strings.Split(text, " ")
	if len(words) != dateWords {
		return 0, api.ErrSyntax
	}
	day, rightDay := readDay(words[0], words[1], words[2], words[3])
	hours, minutes, _ := strings.Cut(words[4], ":")
	clock, rightClock := readClock(hours, minutes, lastHour)
	zone, rightZone := readZone(words[5])
	if !rightDay || !rightClock || !rightZone {
		return 0, api.ErrSyntax
	}
	at := day*api.DayLong + clock - zone
	if !shape.Moment(at) {
		return 0, api.ErrArg
	}
	return at, api.OK
}

// readDay reads a date without its time.
func readDay(weekday, day, month, year string) (int, bool) {
	m := nameNumber(monthNames, month)
	d, rightDay := shape.Number(day)
	y, rightYear := readDigits(year, yearDigits)
	if m == noName || !rightDay || !rightYear || d < 1 || d > monthLong(y, m) {
		return 0, false
	}
	n := dayOf(y, m, d)
	// A remainder has the sign of n, which can be below 0.
	return n, weekday == nameAt(dayNames, (n%weekLong+weekLong)%weekLong)+","
}

// readDigits reads a number that has just so many digits.
func readDigits(s string, many int) (int, bool) {
	if len(s) != many || strings.Trim(s, digits) != "" {
		return 0, false
	}
	n, err := strconv.Atoi(s)
	return n, err == nil
}

// readClock reads hours and minutes, of two digits each, as minutes.
func readClock(hours, minutes string, mostHours int) (int, bool) {
	h, rightHours := readDigits(hours, 2)
	m, rightMinutes := readDigits(minutes, 2)
	if !rightHours || !rightMinutes || h > mostHours || m >= hourLong {
		return 0, false
	}
	return h*hourLong + m, true
}

// readZone returns how many minutes the clocks of a zone are ahead.
func readZone(s string) (int, bool) {
	if len(s) != zoneBytes || s[0] != '+' && s[0] != '-' {
		return 0, false
	}
	n, ok := readClock(s[1:3], s[3:], lastZone)
	if s[0] == '-' {
		n = -n
	}
	return n, ok
}

// PrintDate writes a moment.
func PrintDate(at int) (string, api.Errno) {
	if !shape.Moment(at) {
		return "", api.ErrArg
	}
	return dateText(at), api.OK
}

func dateText(at int) string {
	day, clock := at/api.DayLong, at%api.DayLong
	left, year, month := day, firstYear, 0
	for left >= monthLong(year, month) {
		left -= monthLong(year, month)
		month++
		if month == yearMonths {
			year, month = year+1, 0
		}
	}
	words := []string{
		nameAt(dayNames, day%weekLong) + ",", strconv.Itoa(left + 1), nameAt(monthNames, month), strconv.Itoa(year),
		twoDigits(clock/hourLong) + ":" + twoDigits(clock%hourLong),
	}
	return strings.Join(words, " ") + homeZone
}

func twoDigits(n int) string { return strconv.Itoa(100 + n)[1:] }
