package bits_test

import (
	"math/rand"
	"testing"

	"polder/api"
	"polder/bits"
)

type joining func(a, b api.BtBits) (api.BtBits, api.Errno)

// joins are the functions that join two bitmaps, each with what it does to a bit.
var joins = []struct {
	name string
	f    joining
	bit  func(x, y bool) bool
}{
	{"And", bits.And, func(x, y bool) bool { return x && y }},
	{"Or", bits.Or, func(x, y bool) bool { return x || y }},
	{"Less", bits.Less, func(x, y bool) bool { return x && !y }},
}

// The document's example of P2.6
func TestJoinExample(t *testing.T) {
	if b, e := bits.Less(ten(), packed(fromText("1111100000"))); e != api.OK || b.N != 10 || b.Words[0] != 512 {
		t.Errorf("Less: %v, %d", b, e)
	}
}

// P2.6 for And, Or and Less
func TestJoins(t *testing.T) {
	r := rand.New(rand.NewSource(8))
	for _, l := range samples() {
		m := randomBits(r, len(l))
		for _, x := range joins {
			want := make([]bool, len(l))
			for i := range l {
				want[i] = x.bit(l[i], m[i])
			}
			if b, e := x.f(packed(l), packed(m)); !equal(b, packed(want)) || e != api.OK {
				t.Fatalf("%s(%v, %v): %v, %d", x.name, packed(l), packed(m), b, e)
			}
		}
	}
}

// P2.6 for Flip
func TestFlip(t *testing.T) {
	for _, l := range samples() {
		want := make([]bool, len(l))
		for i := range l {
			want[i] = !l[i]
		}
		if b, e := bits.Flip(packed(l)); !equal(b, packed(want)) || e != api.OK {
			t.Fatalf("Flip(%v): %v, %d", packed(l), b, e)
		}
	}
}

// P2.6: bits that are not as many, in the same number of words too
func TestJoinsOfOtherSizes(t *testing.T) {
	for _, n := range edges {
		for _, m := range edges {
			for _, x := range joins {
				b, e := x.f(full(n), full(m))
				if n == m && e != api.OK {
					t.Errorf("%s(%d bits, %d bits): %d", x.name, n, m, e)
				}
				if n != m && (e != api.ErrArg || b.N != 0 || len(b.Words) != 0) {
					t.Errorf("%s(%d bits, %d bits): %v, %d", x.name, n, m, b, e)
				}
			}
		}
	}
}
