package words_test

import (
	"bytes"
	"math"
	"math/rand"
	"slices"
	"strings"
	"testing"
	"unsafe"

	"polder/api"
	"polder/words"
)

// callAll calls all functions with s and what may be made of it, and reports whether a result beside an error is not zero.
func callAll(s string, a, b int64) bool {
	fields := []words.Field{{S: s}, {Quoted: true, S: s}}
	numbers := []int{int(a), len(s), int(b)}
	words.Name(s)
	words.Text(s)
	words.Digits(a)
	wrong := false
	text := func(s string, e api.Errno) { wrong = wrong || e != api.OK && s != "" }
	n, e := words.Int(s, a, b)
	wrong = wrong || e != api.OK && n != 0
	text(words.List(numbers))
	l, e := words.ParseList(s)
	wrong = wrong || e != api.OK && len(l) != 0
	text(words.Hex([]byte(s)))
	h, e := words.ParseHex(s)
	wrong = wrong || e != api.OK && len(h) != 0
	text(words.Quote(s))
	text(words.Unquote(s))
	f, e := words.Split(s)
	wrong = wrong || e != api.OK && len(f) != 0
	text(words.Join(fields[:1]))
	text(words.Join(fields[1:]))
	text(words.Join(fields))
	lines, e := words.Lines(s)
	return wrong || e != api.OK && len(lines) != 0
}

// P1.11, R1, R2: all arguments are accepted, and nothing is returned with an error
func TestAllArguments(t *testing.T) {
	texts := []string{"", "\x00", "\xff\xfe", "-", "\"", "\"\"\"", ",", "x", "\n", strings.Repeat("\xff", 1<<21), strings.Repeat("9", 1<<21), strings.Repeat("\"", 1<<21), strings.Repeat("\n", 1<<21)}
	numbers := []int64{math.MinInt64, math.MinInt64 + 1, -1, 0, 1, 9999, 10000, math.MaxInt64 - 1, math.MaxInt64}
	for _, s := range texts {
		for _, a := range numbers[:4] {
			if callAll(s, a, -a) {
				t.Errorf("a result with an error: %.20q, %d", s, a)
			}
		}
	}
	r := rand.New(rand.NewSource(9))
	for i := range 50000 {
		s := randomText(r, []string{allBytes(), "\"a \n", "0123-x,", "0af\n "}[i%4], 30)
		a, b := numbers[r.Intn(len(numbers))], numbers[r.Intn(len(numbers))]
		if callAll(s, a, b) {
			t.Fatalf("a result with an error: %q, %d, %d", s, a, b)
		}
	}
}

// P1.11, R3: arguments are not modified
func TestArgumentsStay(t *testing.T) {
	l := []int{3, 3, 3, 1, 2, 3, 9999, 77, 77}
	keptL := slices.Clone(l)
	words.List(l[:7])
	if !slices.Equal(l, keptL) {
		t.Errorf("List changed its argument: %v", l)
	}
	b := []byte("abc\x00\xff, and what is behind it")
	keptB := bytes.Clone(b)
	words.Hex(b[:5])
	if !bytes.Equal(b, keptB) {
		t.Errorf("Hex changed its argument: %v", b)
	}
	f := []words.Field{{S: "a"}, {Quoted: true, S: `b "c"`}, {S: ""}, {S: "d"}}
	keptF := slices.Clone(f)
	words.Join(f[:2])
	words.Join(f)
	if !slices.Equal(f, keptF) {
		t.Errorf("Join changed its argument: %v", f)
	}
}

// P1.11, R3, R6: results are fresh memory: what is done to one of them is not seen in another
func TestResultsAreFresh(t *testing.T) {
	for range 2 {
		l, _ := words.ParseList("1-3,2x9")
		if !slices.Equal(l, []int{1, 2, 3, 9, 9}) {
			t.Errorf("ParseList: %v", l)
		}
		clear(l[:cap(l)])
		b, _ := words.ParseHex("0a0b")
		if !bytes.Equal(b, []byte{10, 11}) {
			t.Errorf("ParseHex: %v", b)
		}
		clear(b[:cap(b)])
		f, _ := words.Split(`a "b"`)
		if !slices.Equal(f, []words.Field{bare("a"), quoted("b")}) {
			t.Errorf("Split: %v", f)
		}
		clear(f[:cap(f)])
		lines, _ := words.Lines("a\nb\n")
		if !slices.Equal(lines, []string{"a", "b"}) {
			t.Errorf("Lines: %v", lines)
		}
		clear(lines[:cap(lines)])
	}
}

// overlaps reports whether two strings share bytes.
func overlaps(a, b string) bool {
	if a == "" || b == "" {
		return false
	}
	x, y := uintptr(unsafe.Pointer(unsafe.StringData(a))), uintptr(unsafe.Pointer(unsafe.StringData(b)))
	return x < y+uintptr(len(b)) && y < x+uintptr(len(a))
}

// P1.11, R3: strings in results share no memory with arguments or with each other
func TestStringsAreFresh(t *testing.T) {
	check := func(name, argument string, results ...string) {
		for i, s := range results {
			if overlaps(s, argument) {
				t.Errorf("%s: %q shares memory with the argument", name, s)
			}
			for _, other := range results[:i] {
				if overlaps(s, other) {
					t.Errorf("%s: %q and %q share memory", name, s, other)
				}
			}
		}
	}
	lines, _ := words.Lines("first\nsecond\n\nfourth\n")
	check("Lines", "", lines...)
	for _, s := range []string{"one line only\n", "first\nsecond\n"} {
		lines, _ := words.Lines(s)
		check("Lines", s, lines...)
	}
	for _, s := range []string{"bare", `"quoted"`, `"quo""ted"`, `bare "quoted" "quo""ted" bare`} {
		fields, _ := words.Split(s)
		var results []string
		for _, f := range fields {
			results = append(results, f.S)
		}
		check("Split", s, results...)
		text, _ := words.Unquote(s)
		check("Unquote", s, text)
		line, _ := words.Join(fields[:1])
		check("Join", fields[0].S, line)
	}
	text := strings.Repeat("a", 20)
	quotation, _ := words.Quote(text)
	check("Quote", text, quotation)
}

// R4: a nil list and an empty one mean the same
func TestNilLists(t *testing.T) {
	for name, f := range map[string]func() (string, api.Errno){
		"List(nil)":    func() (string, api.Errno) { return words.List(nil) },
		"List of none": func() (string, api.Errno) { return words.List([]int{}) },
		"Hex(nil)":     func() (string, api.Errno) { return words.Hex(nil) },
		"Hex of none":  func() (string, api.Errno) { return words.Hex([]byte{}) },
		"Join(nil)":    func() (string, api.Errno) { return words.Join(nil) },
		"Join of none": func() (string, api.Errno) { return words.Join([]words.Field{}) },
	} {
		if s, e := f(); s != "" || e != api.OK {
			t.Errorf("%s: %q, %d", name, s, e)
		}
	}
}
