package clock

import (
	"strings"

	"polder/api"
	"polder/words"
)

// tooMany stands for all numbers of days that are greater than every time.
const tooMany = api.MaxStamp + 1

// unit is a unit of time, and the most of it that a duration has beside the greater units.
type unit struct {
	letter        string
	seconds, most int64
}

// units are those of durations, the greatest one first.
var units = [...]unit{
	{"d", 86400, tooMany},
	{"h", 3600, 23},
	{"m", 60, 59},
	{"s", 1, 59},
}

// zero is the text of no time, which has no part that is not 0.
const zero = "0s"

// Span returns the text of the duration t.
func Span(t int64) (string, api.Errno) {
	if !isTime(t) {
		return "", api.ErrRange
	}
	if t == 0 {
		return zero, api.OK
	}
	text := ""
	for _, u := range units {
		if n := t / u.seconds; n > 0 {
			text += words.Digits(n) + u.letter
		}
		t %= u.seconds
	}
	return text, api.OK
}

// ParseSpan returns the duration whose text is s.
func ParseSpan(s string) (int64, api.Errno) {
	if s == zero {
		return 0, api.OK
	}
	t := int64(0)
	for _, u := range units {
		number, rest, found := strings.Cut(s, u.letter)
		if !found {
			continue
		}
		n, ok := readNumber(number)
		if !ok || n > u.most {
			return 0, api.ErrForm
		}
		t += n * u.seconds
		s = rest
	}
	if t == 0 || s != "" {
		return 0, api.ErrForm
	}
	if !isTime(t) {
		return 0, api.ErrRange
	}
	return t, api.OK
}

// readNumber returns the number from 1 on whose decimal form is s, or tooMany for each that is greater, and whether there is one.
func readNumber(s string) (int64, bool) {
	n, e := words.Int(s, 0, api.MaxStamp)
	if e == api.ErrRange && s[0] != '-' {
		return tooMany, true
	}
	return n, n > 0
}
