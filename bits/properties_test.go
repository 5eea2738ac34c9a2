package bits_test

import (
	"math/rand"
	"slices"
	"testing"

	"polder/api"
	"polder/bits"
)

// must returns a result that has to come without an error.
func must[T any](t *testing.T) func(x T, e api.Errno) T {
	return func(x T, e api.Errno) T {
		t.Helper()
		if e != api.OK {
			t.Fatalf("an error: %d", e)
		}
		return x
	}
}

// P2.7: Select and Count
func TestSelectAndCount(t *testing.T) {
	number := must[int](t)
	for _, l := range samples() {
		b := packed(l)
		for k := range number(bits.Count(b, 0, b.N)) {
			at := number(bits.Select(b, k, true))
			if n := number(bits.Count(b, 0, at)); n != k {
				t.Fatalf("Count(%v, 0, Select(%d)): %d", b, k, n)
			}
		}
		for i, on := range l {
			if on && number(bits.Select(b, number(bits.Count(b, 0, i)), true)) != i {
				t.Fatalf("Select(%v, Count below %d)", b, i)
			}
		}
	}
}

// P2.7: between from and Next no bit is set, likewise between Last and to
func TestNothingBetween(t *testing.T) {
	number := must[int](t)
	r := rand.New(rand.NewSource(10))
	for _, l := range samples() {
		b := packed(l)
		for _, at := range places(r, len(l))[2:] {
			next, e := bits.Next(b, at, true)
			if e == api.ErrNone {
				next = b.N
			} else if !l[next] {
				t.Fatalf("Next(%v, %d): %d is clear", b, at, next)
			}
			if n := number(bits.Count(b, at, next)); n != 0 {
				t.Fatalf("%v: %d set bits from %d to %d", b, n, at, next)
			}
			last, e := bits.Last(b, at, true)
			if e == api.ErrNone {
				last = -1
			} else if !l[last] {
				t.Fatalf("Last(%v, %d): %d is clear", b, at, last)
			}
			if n := number(bits.Count(b, last+1, at)); n != 0 {
				t.Fatalf("%v: %d set bits from %d to %d", b, n, last+1, at)
			}
		}
	}
}

// P2.8
func TestRunsInTurn(t *testing.T) {
	list := must[[]api.BtRun](t)
	for _, l := range samples() {
		b := packed(l)
		set, clear := list(bits.Runs(b, true)), list(bits.Runs(b, false))
		length := 0
		for _, x := range set {
			length += x.To - x.From
		}
		if n, _ := bits.Count(b, 0, b.N); n != length {
			t.Fatalf("%v: Count is %d, the runs have %d", b, n, length)
		}
		at := 0
		for turn := len(l) > 0 && l[0]; len(set) > 0 || len(clear) > 0; turn = !turn {
			runs := &clear
			if turn {
				runs = &set
			}
			if len(*runs) == 0 || (*runs)[0].From != at || (*runs)[0].To <= at {
				t.Fatalf("%v: no run of %v follows at %d", b, turn, at)
			}
			at = (*runs)[0].To
			*runs = (*runs)[1:]
		}
		if at != b.N {
			t.Fatalf("%v: the runs end at %d", b, at)
		}
	}
}

// P2.9
func TestLaws(t *testing.T) {
	of := must[api.BtBits](t)
	r := rand.New(rand.NewSource(11))
	for _, l := range samples() {
		a, b := packed(l), packed(randomBits(r, len(l)))
		flipA, flipB := of(bits.Flip(a)), of(bits.Flip(b))
		if !equal(of(bits.Flip(of(bits.And(a, b)))), of(bits.Or(flipA, flipB))) {
			t.Fatalf("Flip(And(%v, %v))", a, b)
		}
		if !equal(of(bits.Less(a, b)), of(bits.And(a, flipB))) {
			t.Fatalf("Less(%v, %v)", a, b)
		}
		if !equal(of(bits.Flip(flipA)), a) {
			t.Fatalf("Flip(Flip(%v))", a)
		}
		from := r.Intn(b.N + 1)
		to := from + r.Intn(b.N+1-from)
		run := of(bits.Set(of(bits.New(b.N, false)), from, to, true))
		if !equal(of(bits.Set(a, from, to, true)), of(bits.Or(a, run))) {
			t.Fatalf("Set(%v, %d, %d, true)", a, from, to)
		}
		if !equal(of(bits.Set(a, from, to, false)), of(bits.Less(a, run))) {
			t.Fatalf("Set(%v, %d, %d, false)", a, from, to)
		}
	}
}

// P2.10: Fit and Best
func TestFitAndBest(t *testing.T) {
	r := rand.New(rand.NewSource(12))
	for _, l := range samples() {
		b := packed(l)
		for _, size := range sizes(r, len(l)) {
			if size < 1 {
				continue
			}
			fit, fitE := bits.Fit(b, size, 0)
			best, bestE := bits.Best(b, size)
			if fitE != bestE {
				t.Fatalf("%v, %d: Fit %d, Best %d", b, size, fitE, bestE)
			}
			if fitE == api.OK && (!clearAt(l, fit, size) || !clearAt(l, best, size)) {
				t.Fatalf("%v, %d: Fit %d, Best %d are not clear", b, size, fit, best)
			}
		}
	}
}

// P2.10: Fit and Block
func TestFitAndBlock(t *testing.T) {
	for _, l := range samples() {
		b := packed(l)
		for order := range 13 {
			block, e := bits.Block(b, order)
			if e != api.OK {
				continue
			}
			if !clearAt(l, block, 1<<order) || block%(1<<order) != 0 {
				t.Fatalf("Block(%v, %d): %d", b, order, block)
			}
			if fit, e := bits.Fit(b, 1<<order, 0); e != api.OK || fit > block {
				t.Fatalf("Fit(%v, %d): %d, %d", b, 1<<order, fit, e)
			}
		}
	}
}

// P2.9, P2.1: the bits that are returned are valid
func TestResultsAreValid(t *testing.T) {
	of := must[api.BtBits](t)
	for _, l := range samples() {
		b := packed(l)
		all := of(bits.New(b.N, true))
		for i, x := range []api.BtBits{all, of(bits.New(b.N, false)), of(bits.Flip(b)), of(bits.Flip(all)), of(bits.Or(b, all)), of(bits.Less(all, b)), of(bits.And(b, all)), of(bits.Set(b, 0, b.N, true)), of(bits.Set(all, 0, b.N, false))} {
			if e := bits.Check(x); e != api.OK {
				t.Fatalf("%v: the result %d, %v, is not valid: %d", b, i, x, e)
			}
		}
		if !slices.Equal(of(bits.Flip(all)).Words, make([]uint64, len(b.Words))) {
			t.Fatalf("Flip of %d set bits", b.N)
		}
	}
}
