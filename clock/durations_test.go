package clock_test

import (
	"fmt"
	"math"
	"math/big"
	"math/rand"
	"regexp"
	"strings"
	"testing"

	"polder/api"
	"polder/clock"
)

// texts are durations and their texts.
var texts = map[int64]string{
	0: "0s", 1: "1s", 9: "9s", 10: "10s", 59: "59s", 60: "1m", 61: "1m1s", 119: "1m59s", 3599: "59m59s", 3600: "1h", 3601: "1h1s", 3660: "1h1m", 86399: "23h59m59s", 86400: "1d", 86401: "1d1s", 86460: "1d1m", 90000: "1d1h", 90061: "1d1h1m1s", 172805: "2d5s", 8640000: "100d", last - 1: "11574074d1h46m39s", last: "11574074d1h46m40s",
}

// P9.5
func TestSpan(t *testing.T) {
	for n, s := range texts {
		check(t, of(clock.Span(n)), of(s, api.OK), "Span of ", n)
		check(t, of(clock.ParseSpan(s)), of(n, api.OK), "ParseSpan of ", s)
	}
	for _, n := range edges {
		if !valid(n) {
			check(t, of(clock.Span(n)), of("", api.ErrRange), "Span of ", n)
		}
	}
}

// textOf returns the text of a duration, from its numbers of days, hours, minutes and seconds.
func textOf(d, h, m, s int64) string {
	text := ""
	for i, n := range []int64{d, h, m, s} {
		if n > 0 {
			text += fmt.Sprint(n) + "dhms"[i:i+1]
		}
	}
	if text == "" {
		return "0s"
	}
	return text
}

// checkBoth compares Span and ParseSpan of d days, h hours, m minutes and s seconds.
func checkBoth(t *testing.T, d, h, m, s int64) {
	t.Helper()
	n, text := ((d*24+h)*60+m)*60+s, textOf(d, h, m, s)
	if n > last {
		check(t, of(clock.ParseSpan(text)), of(0, api.ErrRange), "ParseSpan of ", text)
		return
	}
	check(t, of(clock.Span(n)), of(text, api.OK), "Span of ", n)
	check(t, of(clock.ParseSpan(text)), of(n, api.OK), "ParseSpan of ", text)
}

// P9.5, P9.8: all durations of up to a day and a bit, and random ones
func TestSpanAndParseSpan(t *testing.T) {
	for d := range int64(2) {
		for h := range int64(24) {
			for m := range int64(60) {
				for s := range int64(60) {
					if d == 0 || s%7 < 2 {
						checkBoth(t, d, h, m, s)
					}
				}
			}
		}
	}
	r := rand.New(rand.NewSource(8))
	for range 20000 {
		d := r.Int63n(11574076)
		if r.Intn(3) == 0 {
			d = 11574074
		}
		checkBoth(t, d, r.Int63n(24), r.Int63n(60), r.Int63n(60))
	}
	for h := range int64(3) {
		for m := range int64(60) {
			for s := range int64(60) {
				checkBoth(t, 11574074, h, m, s)
			}
		}
	}
	for range 20000 {
		n := r.Int63n(last + 1)
		text, e := clock.Span(n)
		check(t, e, api.OK, "Span of ", n)
		check(t, of(clock.ParseSpan(text)), of(n, api.OK), "ParseSpan of ", text)
	}
}

// P9.5
func TestErrorsOfParseSpan(t *testing.T) {
	nines := strings.Repeat("9", 100000)
	for s, want := range map[string]api.Errno{
		"": api.ErrForm, "0": api.ErrForm, "1": api.ErrForm, "s": api.ErrForm, "d": api.ErrForm, "dhms": api.ErrForm,
		"0d": api.ErrForm, "0h": api.ErrForm, "0m": api.ErrForm, "00s": api.ErrForm, "05s": api.ErrForm, "1m05s": api.ErrForm, "01d": api.ErrForm, "0s0s": api.ErrForm, "0m0s": api.ErrForm, "1d0h": api.ErrForm, "0d1h": api.ErrForm, "1d0s": api.ErrForm, "0s1d": api.ErrForm, "00d": api.ErrForm, "-0s": api.ErrForm,
		"60s": api.ErrForm, "60m": api.ErrForm, "24h": api.ErrForm, "1h60m": api.ErrForm, "1d24h": api.ErrForm, "1m60s": api.ErrForm, "100s": api.ErrForm, nines + "s": api.ErrForm, nines + "m": api.ErrForm, nines + "h": api.ErrForm,
		"1m1h": api.ErrForm, "1s1s": api.ErrForm, "1d1d": api.ErrForm, "1h1d": api.ErrForm, "1s1m": api.ErrForm,
		"-1s": api.ErrForm, "-1d": api.ErrForm, "1d-1h": api.ErrForm, "+1s": api.ErrForm, "-" + nines + "d": api.ErrForm, "0" + nines + "d": api.ErrForm,
		"1d1": api.ErrForm, "1x": api.ErrForm, "1D": api.ErrForm, "1 d": api.ErrForm, " 1d": api.ErrForm, "1d ": api.ErrForm, "1d\n": api.ErrForm, "1d 1h": api.ErrForm, "1.5h": api.ErrForm, "1e1d": api.ErrForm, "0x1d": api.ErrForm, "1_0d": api.ErrForm, "\x00": api.ErrForm, "1\xffs": api.ErrForm, "\u0661d": api.ErrForm,
		"11574074d1h46m40s": api.OK, "11574074d1h46m41s": api.ErrRange, "11574074d1h47m": api.ErrRange, "11574074d2h": api.ErrRange, "11574075d": api.ErrRange, "1000000000000d": api.ErrRange, "1000000000001d": api.ErrRange, "1000000000000d23h59m59s": api.ErrRange,
		"9223372036854775807d": api.ErrRange, "9223372036854775808d": api.ErrRange, "18446744073709551616d": api.ErrRange, "106751991167301d": api.ErrRange, "213503982334601d": api.ErrRange, "213503982334602d1s": api.ErrRange, nines + "d": api.ErrRange, nines + "d23h59m59s": api.ErrRange,
		nines + "d60s": api.ErrForm, nines + "d1x": api.ErrForm, nines + "d1": api.ErrForm, nines + "d1m1h": api.ErrForm, nines: api.ErrForm, nines + "d" + nines + "d": api.ErrForm, nines + "d0s": api.ErrForm,
	} {
		n, e := clock.ParseSpan(s)
		if e != want || e != api.OK && n != 0 {
			t.Errorf("ParseSpan(%.40q): %d, %d, want %d", s, n, e, want)
		}
	}
}

var spanForm = regexp.MustCompile(`^(?:0s|(?:([1-9][0-9]*)d)?(?:([1-9]|1[0-9]|2[0-3])h)?(?:([1-9]|[1-5][0-9])m)?(?:([1-9]|[1-5][0-9])s)?)\z`)

// parsed returns what ParseSpan returns, by a regular expression and numbers of any size.
func parsed(s string) answer {
	parts := spanForm.FindStringSubmatch(s)
	if parts == nil || s == "" {
		return of(int64(0), api.ErrForm)
	}
	sum := new(big.Int)
	for i, seconds := range []int64{86400, 3600, 60, 1} {
		n, _ := new(big.Int).SetString("0"+parts[i+1], 10)
		sum.Add(sum, n.Mul(n, big.NewInt(seconds)))
	}
	if sum.Cmp(big.NewInt(last)) > 0 {
		return of(int64(0), api.ErrRange)
	}
	return of(sum.Int64(), api.OK)
}

// P9.5: all short strings of these bytes
func TestParseSpanOfAllShortStrings(t *testing.T) {
	const bytes = "0126dhms-"
	all := []string{""}
	for range 6 {
		var longer []string
		for _, s := range all {
			n, e := clock.ParseSpan(s)
			if want := parsed(s); of(n, e) != want {
				t.Fatalf("ParseSpan(%q): %d, %d, want %v", s, n, e, want)
			}
			for i := range bytes {
				longer = append(longer, s+bytes[i:i+1])
			}
		}
		all = longer
	}
}

// P9.5: random strings that are nearly texts of durations
func TestParseSpanOfRandomStrings(t *testing.T) {
	r := rand.New(rand.NewSource(9))
	var of3 [3]int
	for range 100000 {
		s := ""
		for i := range 4 {
			if r.Intn(3) == 0 {
				continue
			}
			n := r.Int63n([]int64{11574080, 26, 66, 66}[i])
			if i == 0 && r.Intn(4) == 0 {
				n = r.Int63n(math.MaxInt64)
			}
			s += fmt.Sprint(n)
			if i == 0 && r.Intn(8) == 0 {
				s += fmt.Sprint(r.Int63())
			}
			s += "dhms"[i : i+1]
		}
		if r.Intn(10) == 0 && s != "" {
			i := r.Intn(len(s))
			s = s[:i] + "0123456789dhms -+x"[r.Intn(18):][:1] + s[i+r.Intn(2):]
		}
		n, e := clock.ParseSpan(s)
		want := parsed(s)
		if of(n, e) != want {
			t.Fatalf("ParseSpan(%q): %d, %d, want %v", s, n, e, want)
		}
		of3[map[api.Errno]int{api.ErrForm: 0, api.ErrRange: 1, api.OK: 2}[e]]++
	}
	for i, n := range of3 {
		if n < 5000 {
			t.Errorf("only %d strings of the kind %d", n, i)
		}
	}
}
