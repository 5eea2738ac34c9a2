package words

import "polder/api"

// Hex returns the hexadecimal form of b.
func Hex(b []byte) (string, api.Errno) {
	if len(b) > api.MaxHex {
		return "", api.ErrLong
	}
	form := make([]byte, 0, 2*len(b))
	for _, c := range b {
		form = append(form, digits[c>>4], digits[c&15])
	}
	return string(form), api.OK
}

// ParseHex returns the bytes whose hexadecimal form is s.
func ParseHex(s string) ([]byte, api.Errno) {
	if len(s) > 2*api.MaxHex {
		return nil, api.ErrLong
	}
	if len(s)%2 != 0 {
		return nil, api.ErrForm
	}
	b := make([]byte, 0, len(s)/2)
	for i := 0; i < len(s); i += 2 {
		upper, lower := digitValue(s[i]), digitValue(s[i+1])
		if upper == len(digits) || lower == len(digits) {
			return nil, api.ErrForm
		}
		b = append(b, byte(upper<<4|lower))
	}
	return b, api.OK
}
