package bits_test

import (
	"math"
	"math/rand"
	"slices"
	"strings"
	"testing"

	"polder/api"
	"polder/bits"
)

// packed returns the bits of l, made bit by bit.
func packed(l []bool) api.BtBits {
	b := api.BtBits{N: len(l), Words: make([]uint64, (len(l)+63)/64)}
	for i, on := range l {
		if on {
			b.Words[i/64] += 1 << (i % 64)
		}
	}
	return b
}

// fromText returns the bits of a text, the bit 0 first: 1 is a set one, everything else but a blank is a clear one.
func fromText(s string) []bool {
	var l []bool
	for _, c := range strings.ReplaceAll(s, " ", "") {
		l = append(l, c == '1')
	}
	return l
}

// ten returns the ten bits of the document's examples.
func ten() api.BtBits { return packed(fromText("1100100001")) }

// equal reports whether two bitmaps are the same.
func equal(a, b api.BtBits) bool {
	return a.N == b.N && slices.Equal(a.Words, b.Words)
}

// full returns n bits that are all set.
func full(n int) api.BtBits { return packed(slices.Repeat([]bool{true}, n)) }

// empty returns n bits that are all clear.
func empty(n int) api.BtBits { return packed(make([]bool, n)) }

// edges are numbers of bits at the ends of words, and the least and greatest ones.
var edges = []int{0, 1, 2, 62, 63, 64, 65, 127, 128, 129, 191, 192, 193, 2048, 4031, 4032, 4033, 4094, 4095, 4096}

// extremes are numbers far from those of any bit.
var extremes = []int{math.MinInt, math.MinInt + 1, math.MinInt32, -4096, -64, -1, 4097, 1 << 31, 1 << 32, math.MaxInt - 1, math.MaxInt}

// randomBits returns n bits that are set in runs of random lengths, so that both short and long runs occur.
func randomBits(r *rand.Rand, n int) []bool {
	l := make([]bool, n)
	longest := 1 + r.Intn([]int{2, 10, 200, 1000}[r.Intn(4)])
	on := r.Intn(2) == 0
	for at := 0; at < n; on = !on {
		for range 1 + r.Intn(longest) {
			if at < n {
				l[at] = on
				at++
			}
		}
	}
	return l
}

// samples returns bitmaps to search: all with few bits, and random ones with many, at the ends of words too.
func samples() [][]bool {
	var all [][]bool
	for n := range 9 {
		for k := range 1 << n {
			l := make([]bool, n)
			for i := range l {
				l[i] = k>>i&1 == 1
			}
			all = append(all, l)
		}
	}
	r := rand.New(rand.NewSource(2))
	for range 150 {
		all = append(all, randomBits(r, 9+r.Intn(300)))
	}
	for _, n := range edges {
		all = append(all, randomBits(r, n), randomBits(r, n), make([]bool, n), slices.Repeat([]bool{true}, n))
	}
	return all
}

// places returns some places in n bits, all of them if there are few, and some outside.
func places(r *rand.Rand, n int) []int {
	l := []int{-1, n + 1}
	if n <= 200 {
		for i := range n + 1 {
			l = append(l, i)
		}
		return l
	}
	for range 20 {
		l = append(l, r.Intn(n+1))
	}
	for _, at := range edges {
		if at <= n {
			l = append(l, at)
		}
	}
	return append(l, n-1, n)
}

// fewer returns most places of l, picked at random, or all of them if there are not as many.
func fewer(r *rand.Rand, l []int, most int) []int {
	r.Shuffle(len(l), func(i, j int) { l[i], l[j] = l[j], l[i] })
	return l[:min(most, len(l))]
}

// P2.1 for Check
func TestCheck(t *testing.T) {
	words := func(w ...uint64) []uint64 { return w }
	for _, x := range []struct {
		b api.BtBits
		e api.Errno
	}{
		{api.BtBits{}, api.OK},
		{api.BtBits{N: 0, Words: []uint64{}}, api.OK},
		{api.BtBits{N: 1, Words: words(0)}, api.OK},
		{api.BtBits{N: 1, Words: words(1)}, api.OK},
		{api.BtBits{N: 10, Words: words(531)}, api.OK},
		{api.BtBits{N: 63, Words: words(1<<63 - 1)}, api.OK},
		{api.BtBits{N: 64, Words: words(math.MaxUint64)}, api.OK},
		{api.BtBits{N: 65, Words: words(math.MaxUint64, 1)}, api.OK},
		{api.BtBits{N: 128, Words: words(math.MaxUint64, math.MaxUint64)}, api.OK},
		{api.BtBits{N: 4095, Words: make([]uint64, 64)}, api.OK},
		{api.BtBits{N: 4096, Words: make([]uint64, 64)}, api.OK},
		{api.BtBits{N: 4096, Words: slices.Repeat(words(math.MaxUint64), 64)}, api.OK},

		{api.BtBits{N: -1}, api.ErrRange},
		{api.BtBits{N: -1, Words: words(0)}, api.ErrRange},
		{api.BtBits{N: -64, Words: words(0)}, api.ErrRange},
		{api.BtBits{N: 4097}, api.ErrRange},
		{api.BtBits{N: 4097, Words: make([]uint64, 65)}, api.ErrRange},
		{api.BtBits{N: 4097, Words: slices.Repeat(words(math.MaxUint64), 65)}, api.ErrRange},
		{api.BtBits{N: math.MaxInt, Words: words(0)}, api.ErrRange},
		{api.BtBits{N: math.MinInt, Words: words(0)}, api.ErrRange},

		{api.BtBits{N: 0, Words: words(0)}, api.ErrForm},
		{api.BtBits{N: 1}, api.ErrForm},
		{api.BtBits{N: 1, Words: []uint64{}}, api.ErrForm},
		{api.BtBits{N: 10, Words: words(1, 0)}, api.ErrForm},
		{api.BtBits{N: 64, Words: words(0, 0)}, api.ErrForm},
		{api.BtBits{N: 65, Words: words(0)}, api.ErrForm},
		{api.BtBits{N: 65, Words: words(0, 0, 0)}, api.ErrForm},
		{api.BtBits{N: 4096, Words: make([]uint64, 63)}, api.ErrForm},
		{api.BtBits{N: 4096, Words: make([]uint64, 65)}, api.ErrForm},
		{api.BtBits{N: 1, Words: words(2)}, api.ErrForm},
		{api.BtBits{N: 10, Words: words(1 << 10)}, api.ErrForm},
		{api.BtBits{N: 10, Words: words(1<<63 + 1)}, api.ErrForm},
		{api.BtBits{N: 63, Words: words(1 << 63)}, api.ErrForm},
		{api.BtBits{N: 65, Words: words(0, 2)}, api.ErrForm},
		{api.BtBits{N: 4095, Words: append(make([]uint64, 63), 1<<63)}, api.ErrForm},
	} {
		if e := bits.Check(x.b); e != x.e {
			t.Errorf("Check(%d bits, %d words): %d, want %d", x.b.N, len(x.b.Words), e, x.e)
		}
	}
}

// P2.1: each bit of the last word, and each number of words
func TestCheckEachBit(t *testing.T) {
	for n := range 140 {
		for count := range 5 {
			want := api.ErrForm
			if count == (n+63)/64 {
				want = api.OK
			}
			if e := bits.Check(api.BtBits{N: n, Words: make([]uint64, count)}); e != want {
				t.Errorf("Check(%d bits, %d words): %d, want %d", n, count, e, want)
			}
		}
		for i := range (n + 63) / 64 * 64 {
			b := empty(n)
			b.Words[i/64] |= 1 << (i % 64)
			want := api.OK
			if i >= n {
				want = api.ErrForm
			}
			if e := bits.Check(b); e != want {
				t.Errorf("Check(%d bits, the bit %d alone): %d, want %d", n, i, e, want)
			}
		}
	}
}

// P2.1 for New
func TestNew(t *testing.T) {
	for n := -1; n <= 4097; n++ {
		for _, on := range []bool{false, true} {
			b, e := bits.New(n, on)
			if n < 0 || n > 4096 {
				if e != api.ErrRange || b.N != 0 || len(b.Words) != 0 {
					t.Errorf("New(%d, %v): %v, %d", n, on, b, e)
				}
				continue
			}
			if e != api.OK || !equal(b, packed(slices.Repeat([]bool{on}, n))) {
				t.Errorf("New(%d, %v): %v, %d", n, on, b, e)
			}
			if e := bits.Check(b); e != api.OK {
				t.Errorf("Check(New(%d, %v)): %d", n, on, e)
			}
		}
	}
	for _, n := range extremes {
		if b, e := bits.New(n, true); e != api.ErrRange || b.N != 0 || len(b.Words) != 0 {
			t.Errorf("New(%d): %v, %d", n, b, e)
		}
	}
}

// The document's examples of P2.1 and P2.2
func TestBasicExamples(t *testing.T) {
	if b := ten(); b.Words[0] != 531 {
		t.Errorf("the word of B: %d", b.Words[0])
	}
	if n, e := bits.Count(ten(), 1, 5); n != 2 || e != api.OK {
		t.Errorf("Count(B, 1, 5): %d, %d", n, e)
	}
	if on, e := bits.Get(ten(), 9); !on || e != api.OK {
		t.Errorf("Get(B, 9): %v, %d", on, e)
	}
	if on, e := bits.Get(ten(), 8); on || e != api.OK {
		t.Errorf("Get(B, 8): %v, %d", on, e)
	}
}

// P2.2 for Get
func TestGet(t *testing.T) {
	r := rand.New(rand.NewSource(3))
	for _, l := range samples() {
		b := packed(l)
		for _, i := range append(places(r, len(l)), extremes...) {
			on, e := bits.Get(b, i)
			if i < 0 || i >= len(l) {
				if on || e != api.ErrRange {
					t.Fatalf("Get(%v, %d): %v, %d", b, i, on, e)
				}
			} else if on != l[i] || e != api.OK {
				t.Fatalf("Get(%v, %d): %v, %d", b, i, on, e)
			}
		}
	}
}

// count returns how many bits of l are set.
func count(l []bool) int {
	n := 0
	for _, on := range l {
		if on {
			n++
		}
	}
	return n
}

// P2.2 for Set and Count
func TestSetAndCount(t *testing.T) {
	r := rand.New(rand.NewSource(4))
	for _, l := range samples() {
		b := packed(l)
		at := fewer(r, places(r, len(l)), 60)
		for _, from := range at {
			for _, to := range at {
				checkSetAndCount(t, l, b, from, to)
			}
		}
	}
}

func checkSetAndCount(t *testing.T, l []bool, b api.BtBits, from, to int) {
	n, e := bits.Count(b, from, to)
	if from < 0 || to < from || to > len(l) {
		if n != 0 || e != api.ErrRange {
			t.Fatalf("Count(%v, %d, %d): %d, %d", b, from, to, n, e)
		}
		if s, e := bits.Set(b, from, to, true); s.N != 0 || len(s.Words) != 0 || e != api.ErrRange {
			t.Fatalf("Set(%v, %d, %d): %v, %d", b, from, to, s, e)
		}
		return
	}
	if want := count(l[from:to]); n != want || e != api.OK {
		t.Fatalf("Count(%v, %d, %d): %d, %d, want %d", b, from, to, n, e, want)
	}
	for _, on := range []bool{false, true} {
		want := slices.Clone(l)
		for i := from; i < to; i++ {
			want[i] = on
		}
		if s, e := bits.Set(b, from, to, on); !equal(s, packed(want)) || e != api.OK {
			t.Fatalf("Set(%v, %d, %d, %v): %v, %d", b, from, to, on, s, e)
		}
	}
}

// P2.2: runs with ends far from any bit
func TestSetAndCountExtremes(t *testing.T) {
	ends := append([]int{0, 5, 10, 11}, extremes...)
	for _, from := range ends {
		for _, to := range ends {
			want := api.ErrRange
			if 0 <= from && from <= to && to <= 10 {
				want = api.OK
			}
			if _, e := bits.Count(ten(), from, to); e != want {
				t.Errorf("Count(B, %d, %d): %d, want %d", from, to, e, want)
			}
			if _, e := bits.Set(ten(), from, to, false); e != want {
				t.Errorf("Set(B, %d, %d): %d, want %d", from, to, e, want)
			}
		}
	}
}
