package words

import (
	"iter"
	"strings"

	"polder/api"
)

// Field is a field of a line.
type Field struct {
	Quoted bool
	S      string
}

// Quote returns the quotation of s.
func Quote(s string) (string, api.Errno) {
	if !Text(s) {
		return "", api.ErrArg
	}
	return `"` + strings.ReplaceAll(s, `"`, `""`) + `"`, api.OK
}

// Unquote returns the string whose quotation is s.
func Unquote(s string) (string, api.Errno) {
	if len(s) < 2 || s[0] != '"' || s[len(s)-1] != '"' {
		return "", api.ErrForm
	}
	inner := s[1 : len(s)-1]
	text := strings.ReplaceAll(inner, `""`, `"`)
	if !Text(text) || strings.ReplaceAll(text, `"`, `""`) != inner {
		return "", api.ErrForm
	}
	return strings.Clone(text), api.OK // the result shares no memory with s
}

// Split returns the fields of a line.
func Split(line string) ([]Field, api.Errno) {
	if len(line) > api.MaxLine {
		return nil, api.ErrLong
	}
	if line == "" {
		return nil, api.OK
	}
	var fields []Field
	for written := range pieces(line) {
		field, ok := readField(written)
		if !ok {
			return nil, api.ErrForm
		}
		fields = append(fields, field)
	}
	if len(fields) > api.MaxFields {
		return nil, api.ErrLong
	}
	return fields, api.OK
}

// pieces yields what stands between the spaces of a line, but for the spaces in quotations.
func pieces(line string) iter.Seq[string] {
	return func(yield func(string) bool) {
		rest := line
		for {
			end := fieldEnd(rest)
			if !yield(rest[:end]) || end == len(rest) {
				return
			}
			rest = rest[end+1:]
		}
	}
}

// fieldEnd returns where the first field of s ends. A doubled quote closes a quotation and opens it again: there is no space between its halves.
func fieldEnd(s string) int {
	quoted := false
	ends := func(c byte) bool {
		if c == '"' {
			quoted = !quoted
		}
		return c == ' ' && !quoted
	}
	end := 0
	for end < len(s) && !ends(s[end]) {
		end++
	}
	return end
}

// readField returns the field that is written as s, and whether it is one.
func readField(s string) (Field, bool) {
	if strings.HasPrefix(s, `"`) {
		text, e := Unquote(s)
		return Field{Quoted: true, S: text}, e == api.OK
	}
	return Field{S: strings.Clone(s)}, isBare(s) // the field shares no memory with the line
}

// isBare reports whether s can be the string of a bare field.
func isBare(s string) bool {
	return s != "" && len(s) <= api.MaxText && within(s, '!', '~') && !strings.Contains(s, `"`)
}

// Join returns the line of the fields l.
func Join(l []Field) (string, api.Errno) {
	if len(l) > api.MaxFields {
		return "", api.ErrLong
	}
	var line strings.Builder
	for i, field := range l {
		written, ok := writeField(field)
		if !ok {
			return "", api.ErrArg
		}
		if i > 0 {
			line.WriteByte(' ')
		}
		line.WriteString(written)
	}
	if line.Len() > api.MaxLine {
		return "", api.ErrLong
	}
	return line.String(), api.OK
}

// writeField returns how a field is written, and whether it is one.
func writeField(field Field) (string, bool) {
	if field.Quoted {
		written, e := Quote(field.S)
		return written, e == api.OK
	}
	return field.S, isBare(field.S)
}
