package words_test

import (
	"bytes"
	"math/rand"
	"regexp"
	"strings"
	"testing"

	"polder/api"
	"polder/words"
)

// P1.4
func TestHexAndParseHex(t *testing.T) {
	for _, x := range []struct {
		s string
		b []byte
	}{
		{"", nil},
		{"", []byte{}},
		{"00", []byte{0}},
		{"000aff", []byte{0, 10, 255}},
		{"1f20", []byte{31, 32}},
		{"0123456789abcdef", []byte{1, 0x23, 0x45, 0x67, 0x89, 0xab, 0xcd, 0xef}},
		{strings.Repeat("5a", 100), bytes.Repeat([]byte{'Z'}, 100)},
	} {
		if s, e := words.Hex(x.b); s != x.s || e != api.OK {
			t.Errorf("Hex(%v): %s, %d, want %s", x.b, s, e, x.s)
		}
		if b, e := words.ParseHex(x.s); !bytes.Equal(b, x.b) || e != api.OK {
			t.Errorf("ParseHex(%s): %v, %d, want %v", x.s, b, e, x.b)
		}
	}
}

// P1.4
func TestHexErrors(t *testing.T) {
	for _, n := range []int{101, 5000} {
		if s, e := words.Hex(make([]byte, n)); s != "" || e != api.ErrLong {
			t.Errorf("Hex of %d bytes: %s, %d", n, s, e)
		}
	}
	for s, want := range map[string]api.Errno{
		"0": api.ErrForm, "0a1": api.ErrForm, "0aFF": api.ErrForm, "A0": api.ErrForm, "0A": api.ErrForm, "0x": api.ErrForm, "g0": api.ErrForm, "0 ": api.ErrForm, "00\n0": api.ErrForm, "-1": api.ErrForm, "é": api.ErrForm,
		strings.Repeat("0", 199): api.ErrForm, strings.Repeat("0", 199) + "g": api.ErrForm,
		strings.Repeat("0", 201): api.ErrLong, strings.Repeat("0", 202): api.ErrLong, strings.Repeat("g", 201): api.ErrLong,
	} {
		if b, e := words.ParseHex(s); len(b) != 0 || e != want {
			t.Errorf("ParseHex(%.20q), %d bytes: %v, %d, want %d", s, len(s), b, e, want)
		}
	}
}

// P1.4: each byte as either of two digits
func TestParseHexOfAllPairs(t *testing.T) {
	form := regexp.MustCompile(`^[0-9a-f]{2}\z`)
	for i := range 1 << 16 {
		s := string([]byte{byte(i >> 8), byte(i)})
		b, e := words.ParseHex(s)
		if form.MatchString(s) != (e == api.OK) || e != api.OK && (e != api.ErrForm || len(b) != 0) {
			t.Fatalf("ParseHex(%q): %v, %d", s, b, e)
		}
	}
}

// P1.8 for Hex and ParseHex, in both directions
func TestHexInverse(t *testing.T) {
	r := rand.New(rand.NewSource(7))
	for range 5000 {
		b := []byte(randomText(r, allBytes(), 100))
		s, e := words.Hex(b)
		if e != api.OK {
			t.Fatalf("Hex(%v): %d", b, e)
		}
		if got, e := words.ParseHex(s); !bytes.Equal(got, b) || e != api.OK {
			t.Fatalf("ParseHex(%s): %v, %d", s, got, e)
		}
		s = randomText(r, "0123456789abcdef", 200)
		if b, e := words.ParseHex(s); e == api.OK {
			if got, e := words.Hex(b); got != s || e != api.OK {
				t.Fatalf("Hex of ParseHex(%s): %s, %d", s, got, e)
			}
		} else if len(s)%2 == 0 {
			t.Fatalf("ParseHex(%s): %d", s, e)
		}
	}
}
