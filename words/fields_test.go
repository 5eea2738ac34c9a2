package words_test

import (
	"math/rand"
	"regexp"
	"slices"
	"strings"
	"testing"

	"polder/api"
	"polder/words"
)

func bare(s string) words.Field { return words.Field{S: s} }

func quoted(s string) words.Field { return words.Field{Quoted: true, S: s} }

// P1.5
func TestQuoteAndUnquote(t *testing.T) {
	for s, q := range map[string]string{
		"":                           `""`,
		"a":                          `"a"`,
		`say "a"`:                    `"say ""a"""`,
		`"`:                          `""""`,
		`""`:                         `""""""`,
		`a"b`:                        `"a""b"`,
		" ~\\'":                      `" ~\'"`,
		strings.Repeat("x", 200):     `"` + strings.Repeat("x", 200) + `"`,
		strings.Repeat(`"`, 200):     strings.Repeat(`"`, 402),
		strings.Repeat(`"`, 3) + "a": `"""""""a"`,
	} {
		if got, e := words.Quote(s); got != q || e != api.OK {
			t.Errorf("Quote(%q): %s, %d, want %s", s, got, e, q)
		}
		if got, e := words.Unquote(q); got != s || e != api.OK {
			t.Errorf("Unquote(%s): %q, %d, want %q", q, got, e, s)
		}
	}
}

// P1.5
func TestQuoteErrors(t *testing.T) {
	for _, s := range []string{"\n", "a\x1f", "\x7f", "é", "\x00", strings.Repeat("x", 201), strings.Repeat(`"`, 201)} {
		if q, e := words.Quote(s); q != "" || e != api.ErrArg {
			t.Errorf("Quote(%.20q): %q, %d", s, q, e)
		}
	}
	for _, q := range []string{
		"", `"`, "a", `"a`, `a"`, `"""`, `"""""`, `"a"b"`, `""a"`, `"a""`, `"a" `, ` "a"`, `""""a"`, `'a'`, "\"\n\"", "\"\x7f\"", `"é"`,
		`"` + strings.Repeat("x", 201) + `"`, strings.Repeat(`"`, 401), strings.Repeat(`"`, 404),
	} {
		if s, e := words.Unquote(q); s != "" || e != api.ErrForm {
			t.Errorf("Unquote(%.20q): %q, %d", q, s, e)
		}
	}
}

// P1.5, P1.8: of all short texts, Unquote accepts the quotations and no others
func TestUnquoteOfAllShortTexts(t *testing.T) {
	form := regexp.MustCompile(`^"([a ]|"")*"\z`)
	for n := range 9 {
		inOrder("\"a ", n, func(q string) {
			s, e := words.Unquote(q)
			if form.MatchString(q) != (e == api.OK) || e != api.OK && (e != api.ErrForm || s != "") {
				t.Fatalf("Unquote(%s): %q, %d", q, s, e)
			}
			if e != api.OK {
				return
			}
			if got, e := words.Quote(s); got != q || e != api.OK {
				t.Fatalf("Quote of Unquote(%s): %s, %d", q, got, e)
			}
		})
	}
}

// P1.6, P1.8
func TestSplitAndJoin(t *testing.T) {
	for _, x := range []struct {
		line string
		l    []words.Field
	}{
		{"", nil},
		{"", []words.Field{}},
		{"a", []words.Field{bare("a")}},
		{`""`, []words.Field{quoted("")}},
		{`create "main arena" 1`, []words.Field{bare("create"), quoted("main arena"), bare("1")}},
		{`"a" a`, []words.Field{quoted("a"), bare("a")}},
		{`" " "" " "" "`, []words.Field{quoted(" "), quoted(""), quoted(` " `)}},
		{`""" """ !~`, []words.Field{quoted(`" "`), bare("!~")}},
		{`- ' \`, []words.Field{bare("-"), bare("'"), bare(`\`)}},
		{strings.Repeat("x", 200) + ` "` + strings.Repeat("y ", 100) + `"`, []words.Field{bare(strings.Repeat("x", 200)), quoted(strings.Repeat("y ", 100))}},
		{strings.TrimSpace(strings.Repeat("a ", 64)), slices.Repeat([]words.Field{bare("a")}, 64)},
	} {
		if l, e := words.Split(x.line); !slices.Equal(l, x.l) || e != api.OK {
			t.Errorf("Split(%s): %v, %d, want %v", x.line, l, e, x.l)
		}
		if line, e := words.Join(x.l); line != x.line || e != api.OK {
			t.Errorf("Join(%v): %s, %d, want %s", x.l, line, e, x.line)
		}
	}
}

// lineOf returns a line of n bytes, with few fields.
func lineOf(n int) string {
	line := ""
	for n-len(line) > 200 {
		line += strings.Repeat("b", 150) + " "
	}
	return line + strings.Repeat("c", n-len(line))
}

// P1.6
func TestSplitErrors(t *testing.T) {
	many := strings.Repeat("a ", 64)
	for line, want := range map[string]api.Errno{
		" ": api.ErrForm, "  ": api.ErrForm, " a": api.ErrForm, "a ": api.ErrForm, "a  b": api.ErrForm, "a\tb": api.ErrForm, "a\n": api.ErrForm, "\x7f": api.ErrForm, "é": api.ErrForm, "a\x00": api.ErrForm,
		`"`: api.ErrForm, `a"b`: api.ErrForm, `a"`: api.ErrForm, `a""`: api.ErrForm, `"a`: api.ErrForm, `"a"b`: api.ErrForm, `"a" `: api.ErrForm, `"a"  b`: api.ErrForm, `"a""`: api.ErrForm, `"a"" b`: api.ErrForm, `a"b c"`: api.ErrForm, `a" "b`: api.ErrForm, `"a"" "b"`: api.ErrForm, `"a""b" "`: api.ErrForm,
		"\"\n\"":                             api.ErrForm,
		strings.Repeat("x", 201):             api.ErrForm,
		`"` + strings.Repeat("x", 201) + `"`: api.ErrForm,
		many + "a":                           api.ErrLong,
		many + `""`:                          api.ErrLong,
		many:                                 api.ErrForm,
		many + "a ":                          api.ErrForm,
		many + `a "`:                         api.ErrForm,
		many + many + "a":                    api.ErrLong,
		strings.Repeat("a ", 2047) + "aa":    api.ErrLong,
		strings.Repeat("a ", 2048):           api.ErrForm,
		strings.Repeat("a ", 2048) + "a":     api.ErrLong,
		strings.Repeat(" ", 4096):            api.ErrForm,
		strings.Repeat(" ", 4097):            api.ErrLong,
		lineOf(4097):                         api.ErrLong,
	} {
		if l, e := words.Split(line); len(l) != 0 || e != want {
			t.Errorf("Split(%.20q), %d bytes: %v, %d, want %d", line, len(line), l, e, want)
		}
	}
	if l, e := words.Split(lineOf(4096)); len(l) == 0 || e != api.OK {
		t.Errorf("Split of 4096 bytes: %v, %d", l, e)
	}
}

// P1.6
func TestJoinErrors(t *testing.T) {
	many := slices.Repeat([]words.Field{bare("a")}, 64)
	long := slices.Repeat([]words.Field{bare(strings.Repeat("b", 200))}, 21)
	doubled := slices.Repeat([]words.Field{quoted(strings.Repeat(`"`, 200))}, 11)
	for name, x := range map[string]struct {
		l []words.Field
		e api.Errno
	}{
		"an empty bare field":              {[]words.Field{bare("")}, api.ErrArg},
		"a bare field with a space":        {[]words.Field{bare("a b")}, api.ErrArg},
		"a bare field with a quote":        {[]words.Field{bare(`a"`)}, api.ErrArg},
		"a bare quotation":                 {[]words.Field{bare(`"a"`)}, api.ErrArg},
		"a bare field with byte 127":       {[]words.Field{bare("a\x7f")}, api.ErrArg},
		"a bare field with byte 0":         {[]words.Field{bare("\x00")}, api.ErrArg},
		"a bare field of two bytes é":      {[]words.Field{bare("é")}, api.ErrArg},
		"a bare field of 201 bytes":        {[]words.Field{bare(strings.Repeat("a", 201))}, api.ErrArg},
		"a quoted field of 201 bytes":      {[]words.Field{quoted(strings.Repeat("a", 201))}, api.ErrArg},
		"a quoted field with a line feed":  {[]words.Field{quoted("\n")}, api.ErrArg},
		"a bad field behind good ones":     {[]words.Field{bare("a"), quoted(""), bare("")}, api.ErrArg},
		"65 fields":                        {append(many[:64:64], bare("a")), api.ErrLong},
		"65 fields, one of them bad":       {append(many[:64:64], bare("")), api.ErrLong},
		"64 fields, one of them bad":       {append(many[:63:63], bare("")), api.ErrArg},
		"a line of 4220 bytes":             {long, api.ErrLong},
		"a long line, and a bad field":     {append(long[:21:21], bare("")), api.ErrArg},
		"a line of 4097 bytes":             {append(long[:20:20], bare(strings.Repeat("c", 77))), api.ErrLong},
		"a line that is long by quotation": {doubled, api.ErrLong},
	} {
		if s, e := words.Join(x.l); s != "" || e != x.e {
			t.Errorf("Join of %s: %.20q, %d, want %d", name, s, e, x.e)
		}
	}
	if s, e := words.Join(append(long[:20:20], bare(strings.Repeat("c", 76)))); len(s) != 4096 || e != api.OK {
		t.Errorf("Join of 4096 bytes: %d bytes, %d", len(s), e)
	}
}

// P1.6, P1.8: of all short texts, Split accepts the lines and no others, and Join is its inverse
func TestSplitOfAllShortTexts(t *testing.T) {
	form := regexp.MustCompile(`^((a+|"([a ]|"")*")( (a+|"([a ]|"")*"))*)?\z`)
	for n := range 10 {
		inOrder("\"a ", n, func(line string) {
			l, e := words.Split(line)
			if form.MatchString(line) != (e == api.OK) || e != api.OK && (e != api.ErrForm || len(l) != 0) {
				t.Fatalf("Split(%s): %v, %d", line, l, e)
			}
			if e != api.OK {
				return
			}
			if got, e := words.Join(l); got != line || e != api.OK {
				t.Fatalf("Join of Split(%s): %s, %d", line, got, e)
			}
		})
	}
}

// P1.8: Split of Join is the list of fields
func TestSplitOfJoin(t *testing.T) {
	r := rand.New(rand.NewSource(8))
	joined := 0
	for range 20000 {
		l := make([]words.Field, r.Intn(66))
		for i := range l {
			l[i] = words.Field{Quoted: r.Intn(2) == 0, S: randomText(r, "ab!~", 100)}
			if l[i].Quoted {
				l[i].S = randomText(r, "a~ \"", 60)
			} else if l[i].S == "" && r.Intn(100) > 0 {
				l[i].S = "z"
			}
		}
		line, e := words.Join(l)
		if e != api.OK {
			continue
		}
		joined++
		if got, e := words.Split(line); !slices.Equal(got, l) || e != api.OK {
			t.Fatalf("Split(%s): %v, %d, want %v", line, got, e, l)
		}
	}
	if joined < 10000 {
		t.Errorf("only %d lists of fields were joined", joined)
	}
}
