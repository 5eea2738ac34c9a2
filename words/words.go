// Package words is layer 1: see shared/doc/01-words.md.
package words

import (
	"strconv"
	"strings"

	"polder/api"
)

// digits are those of all forms: the first ten of decimal numbers, all of them of hexadecimal forms.
var digits = [16]byte{'0', '1', '2', '3', '4', '5', '6', '7', '8', '9', 'a', 'b', 'c', 'd', 'e', 'f'}

// digitValue returns the value of a digit, and len(digits) for every other byte.
func digitValue(c byte) int {
	v := 0
	for v < len(digits) && digits[v] != c {
		v++
	}
	return v
}

// Name reports whether s is a name.
func Name(s string) bool {
	if len(s) < 1 || len(s) > api.MaxName || !isLetter(s[0]) {
		return false
	}
	for i := 1; i < len(s); i++ {
		if !isLetter(s[i]) && !isDecimalDigit(s[i]) && s[i] != '_' {
			return false
		}
	}
	return true
}

// Text reports whether s is a string as the document defines it.
func Text(s string) bool {
	return len(s) <= api.MaxText && within(s, ' ', '~')
}

// Digits returns the decimal form of n.
func Digits(n int64) string {
	return strconv.FormatInt(n, 10)
}

// Int returns the integer from min to max whose decimal form is s.
func Int(s string, min, max int64) (int64, api.Errno) {
	if min > max {
		return 0, api.ErrArg
	}
	if !isDecimalForm(s) {
		return 0, api.ErrForm
	}
	n, err := strconv.ParseInt(s, 10, 64)
	if err != nil || n < min || n > max {
		return 0, api.ErrRange
	}
	return n, api.OK
}

// Lines returns the lines of s, each of which ends with a line feed there.
func Lines(s string) ([]string, api.Errno) {
	if len(s) > api.MaxScript {
		return nil, api.ErrLong
	}
	if s == "" {
		return nil, api.OK
	}
	body, ended := strings.CutSuffix(s, "\n")
	if !ended {
		return nil, api.ErrForm
	}
	if strings.Count(s, "\n") > api.MaxLines {
		return nil, api.ErrLong
	}
	lines := strings.Split(body, "\n")
	for i, line := range lines {
		lines[i] = strings.Clone(line) // results share no memory with s
	}
	return lines, api.OK
}

// isDecimalForm reports whether s is the decimal form of an integer of any size.
func isDecimalForm(s string) bool {
	if size, negative := strings.CutPrefix(s, "-"); negative {
		return isNatural(size) && size != "0"
	}
	return isNatural(s)
}

// isNatural reports whether s is the decimal form of an integer of any size that is not negative.
func isNatural(s string) bool {
	if s == "" || s[0] == '0' && s != "0" {
		return false
	}
	for i := range len(s) {
		if !isDecimalDigit(s[i]) {
			return false
		}
	}
	return true
}

func isLetter(c byte) bool {
	return c >= 'a' && c <= 'z' || c >= 'A' && c <= 'Z'
}

func isDecimalDigit(c byte) bool {
	return digitValue(c) < 10
}

// within reports whether all bytes of s are from least to most.
func within(s string, least, most byte) bool {
	for i := range len(s) {
		if s[i] < least || s[i] > most {
			return false
		}
	}
	return true
}
