package times

import (
	"strconv"

	"groundling/api"
)

// How many of the next smaller unit a unit has.
const (
	hoursOfDay = 24
	parts      = 60 // minutes of an hour, and seconds of a minute
)

// Print returns the text of t.
func Print(t int64) (string, api.Errno) {
	if anyNegative(t) {
		return "", api.ErrRange
	}
	days := strconv.FormatInt(t/secondsOf('d'), 10)
	hours := twoDigits(t / secondsOf('h') % hoursOfDay)
	minutes := twoDigits(t / secondsOf('m') % parts)
	seconds := twoDigits(t % parts)
	return days + "d" + hours + ":" + minutes + ":" + seconds, api.OK
}

// Parse returns the time whose text is s.
func Parse(s string) (int64, api.Errno) {
	// read takes any string for one of its numbers; only the text of this number is that of a time.
	t := read(s)
	if text, e := Print(t); e != api.OK || text != s {
		return 0, api.ErrForm
	}
	return t, api.OK
}

// read returns the time whose text is s, and just any number if s is no such text.
func read(s string) int64 {
	before, n := int64(0), int64(0) // what was read up to the last separator, in the unit that comes after it, and what was read since
	for _, c := range []byte(s) {
		switch c {
		case 'd':
			before, n = (before+n)*hoursOfDay, 0
		case ':':
			before, n = (before+n)*parts, 0
		default:
			n = n<<3 + n<<1 + int64(c-'0')
		}
	}
	return before + n
}

// secondsOf returns how many seconds a day (d), an hour (h), or a minute (m) has.
func secondsOf(unit byte) int64 {
	seconds := int64(1)
	switch unit {
	case 'd':
		seconds *= hoursOfDay
		fallthrough
	case 'h':
		seconds *= parts
		fallthrough
	case 'm':
		seconds *= parts
	}
	return seconds
}

// twoDigits returns the two digits of n, which is less than 100.
func twoDigits(n int64) string {
	return string([]byte{'0' + byte(n/10), '0' + byte(n%10)})
}
