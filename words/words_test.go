package words_test

import (
	"math"
	"math/big"
	"math/rand"
	"regexp"
	"slices"
	"strings"
	"testing"

	"polder/api"
	"polder/words"
)

// randomText returns at most most bytes, each one of alphabet.
func randomText(r *rand.Rand, alphabet string, most int) string {
	b := make([]byte, r.Intn(most+1))
	for i := range b {
		b[i] = alphabet[r.Intn(len(alphabet))]
	}
	return string(b)
}

// allBytes returns a string with each byte once.
func allBytes() string {
	b := make([]byte, 256)
	for i := range b {
		b[i] = byte(i)
	}
	return string(b)
}

// P1.1
func TestName(t *testing.T) {
	for s, want := range map[string]bool{
		"a": true, "z": true, "A": true, "Z": true, "a0": true, "a9": true, "a_": true, "Ab_9": true, "x__": true,
		strings.Repeat("a", api.MaxName):   true,
		strings.Repeat("a", api.MaxName+1): false,
		"":                                 false, "_": false, "0": false, "9a": false, "a b": false, "a\x00": false, "a.": false, "a\n": false,
		"é": false, "aé": false, "a\xff": false,
	} {
		if words.Name(s) != want {
			t.Errorf("Name(%q): want %v", s, want)
		}
	}
	first, later := regexp.MustCompile(`^[a-zA-Z]$`), regexp.MustCompile(`^[a-zA-Z0-9_]$`)
	for i := range 128 {
		c := string(rune(i))
		if words.Name(c) != first.MatchString(c) {
			t.Errorf("Name(%q): not %v", c, first.MatchString(c))
		}
		for _, s := range []string{"a" + c, "a" + c + "b"} {
			if words.Name(s) != later.MatchString(c) {
				t.Errorf("Name(%q): not %v", s, later.MatchString(c))
			}
		}
	}
}

// P1.1
func TestText(t *testing.T) {
	for i := range 256 {
		want := i >= 32 && i <= 126
		for _, s := range []string{string([]byte{byte(i)}), string([]byte{'a', byte(i), 'b'})} {
			if words.Text(s) != want {
				t.Errorf("Text(%q): not %v", s, want)
			}
		}
	}
	for n, want := range map[int]bool{0: true, 1: true, 199: true, 200: true, 201: false, 10000: false} {
		if words.Text(strings.Repeat("\"", n)) != want {
			t.Errorf("Text of %d bytes: want %v", n, want)
		}
	}
}

// P1.2
func TestDigits(t *testing.T) {
	for n, want := range map[int64]string{0: "0", 7: "7", -7: "-7", 10: "10", -100: "-100", 1234567890: "1234567890", math.MaxInt64: "9223372036854775807", math.MinInt64: "-9223372036854775808"} {
		if got := words.Digits(n); got != want {
			t.Errorf("Digits(%d): %s", n, got)
		}
	}
}

// P1.2
func TestInt(t *testing.T) {
	const least, most = math.MinInt64, math.MaxInt64
	for _, x := range []struct {
		s        string
		min, max int64
		n        int64
		e        api.Errno
	}{
		{"0", 0, 0, 0, api.OK},
		{"5", 5, 5, 5, api.OK},
		{"-5", -5, -5, -5, api.OK},
		{"100", 0, 1000, 100, api.OK},
		{"9223372036854775807", least, most, most, api.OK},
		{"-9223372036854775808", least, most, least, api.OK},
		{"9223372036854775808", least, most, 0, api.ErrRange},
		{"-9223372036854775809", least, most, 0, api.ErrRange},
		{"18446744073709551616", least, most, 0, api.ErrRange},
		{"18446744073709551621", 0, 9, 0, api.ErrRange},
		{strings.Repeat("9", 5000), least, most, 0, api.ErrRange},
		{"-" + strings.Repeat("9", 5000), least, most, 0, api.ErrRange},
		{"4", 5, 9, 0, api.ErrRange},
		{"10", 5, 9, 0, api.ErrRange},
		{"-1", 0, 9, 0, api.ErrRange},
		{"0", 1, 9, 0, api.ErrRange},
		{"5", 9, 0, 0, api.ErrArg},
		{"x", 9, 0, 0, api.ErrArg},
		{"5", most, least, 0, api.ErrArg},
		{"", 0, 9, 0, api.ErrForm},
		{"-", 0, 9, 0, api.ErrForm},
		{"+", 0, 9, 0, api.ErrForm},
		{"+5", 0, 9, 0, api.ErrForm},
		{"--5", -9, 9, 0, api.ErrForm},
		{"-0", -9, 9, 0, api.ErrForm},
		{"00", 0, 9, 0, api.ErrForm},
		{"05", 0, 9, 0, api.ErrForm},
		{"-05", -9, 9, 0, api.ErrForm},
		{" 5", 0, 9, 0, api.ErrForm},
		{"5 ", 0, 9, 0, api.ErrForm},
		{"5\n", 0, 9, 0, api.ErrForm},
		{"0x5", 0, 9, 0, api.ErrForm},
		{"1_0", 0, 99, 0, api.ErrForm},
		{"1e1", 0, 99, 0, api.ErrForm},
		{"a", 0, 99, 0, api.ErrForm},
		{"1.0", 0, 99, 0, api.ErrForm},
		{"٣", 0, 99, 0, api.ErrForm},
		{strings.Repeat("9", 5000) + "a", 0, 9, 0, api.ErrForm},
	} {
		if n, e := words.Int(x.s, x.min, x.max); n != x.n || e != x.e {
			t.Errorf("Int(%.30q, %d, %d): %d, %d; want %d, %d", x.s, x.min, x.max, n, e, x.n, x.e)
		}
	}
}

var decimalForm = regexp.MustCompile(`^(0|-?[1-9][0-9]*)\z`)

// wantInt is Int by regular expressions and numbers of any size.
func wantInt(s string, min, max int64) (int64, api.Errno) {
	if min > max {
		return 0, api.ErrArg
	}
	if !decimalForm.MatchString(s) {
		return 0, api.ErrForm
	}
	n, _ := new(big.Int).SetString(s, 10)
	if n.Cmp(big.NewInt(min)) < 0 || n.Cmp(big.NewInt(max)) > 0 {
		return 0, api.ErrRange
	}
	return n.Int64(), api.OK
}

// P1.2
func TestIntOfRandomTexts(t *testing.T) {
	r := rand.New(rand.NewSource(1))
	for range 100000 {
		s := randomText(r, "00123456789-", 21)
		min, max := r.Int63()>>r.Intn(64), r.Int63()>>r.Intn(64)
		if r.Intn(2) == 0 {
			min = -min
		}
		n, e := words.Int(s, min, max)
		if wantN, wantE := wantInt(s, min, max); n != wantN || e != wantE {
			t.Fatalf("Int(%q, %d, %d): %d, %d; want %d, %d", s, min, max, n, e, wantN, wantE)
		}
	}
}

// P1.8 for Digits and Int
func TestIntOfDigits(t *testing.T) {
	check := func(n int64) {
		if got, e := words.Int(words.Digits(n), math.MinInt64, math.MaxInt64); got != n || e != api.OK {
			t.Fatalf("Int of Digits(%d): %d, %d", n, got, e)
		}
	}
	for shift := range 64 {
		for d := int64(-2); d <= 2; d++ {
			check(1<<shift + d)
			check(-(1 << shift) + d)
		}
	}
	for n := int64(-1100); n <= 1100; n++ {
		check(n)
		if s := words.Digits(n); s[0] == '0' && s != "0" || strings.HasPrefix(s, "-0") {
			t.Fatalf("Digits(%d): %s", n, s)
		}
	}
}

// P1.7
func TestLines(t *testing.T) {
	for _, x := range []struct {
		s    string
		want []string
	}{
		{"", nil},
		{"\n", []string{""}},
		{"\n\n", []string{"", ""}},
		{"a\n", []string{"a"}},
		{"a\nb c\n", []string{"a", "b c"}},
		{"\na\n\n", []string{"", "a", ""}},
		{"a\r\n\x00\xff\n", []string{"a\r", "\x00\xff"}},
	} {
		if got, e := words.Lines(x.s); !slices.Equal(got, x.want) || e != api.OK {
			t.Errorf("Lines(%q): %q, %d", x.s, got, e)
		}
	}
}

// P1.7
func TestLinesErrors(t *testing.T) {
	line := strings.Repeat("a", 99) + "\n"
	for name, x := range map[string]struct {
		s     string
		lines int
		e     api.Errno
	}{
		"no line feed":                      {"a", 0, api.ErrForm},
		"no line feed at the end":           {"a\nb", 0, api.ErrForm},
		"a carriage return at the end":      {"a\n\r", 0, api.ErrForm},
		"5000 lines":                        {strings.Repeat(line, 5000), 5000, api.OK},
		"5001 lines":                        {strings.Repeat(line, 5001), 0, api.ErrLong},
		"5001 line feeds and no end":        {strings.Repeat(line, 5001) + "a", 0, api.ErrForm},
		"2^20 bytes":                        {strings.Repeat("a", 1<<20-1) + "\n", 1, api.OK},
		"2^20 bytes and no end":             {strings.Repeat("a", 1<<20), 0, api.ErrForm},
		"2^20 + 1 bytes":                    {strings.Repeat("a", 1<<20) + "\n", 0, api.ErrLong},
		"2^20 + 1 bytes and no end":         {strings.Repeat("a", 1<<20+1), 0, api.ErrLong},
		"2^20 + 1 bytes with many lines":    {strings.Repeat("\n", 1<<20+1), 0, api.ErrLong},
		"2^20 bytes that are all line ends": {strings.Repeat("\n", 1<<20), 0, api.ErrLong},
	} {
		if l, e := words.Lines(x.s); len(l) != x.lines || e != x.e {
			t.Errorf("Lines of %s: %d lines, %d; want %d, %d", name, len(l), e, x.lines, x.e)
		}
	}
}
