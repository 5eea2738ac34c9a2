package bits_test

import (
	"math"
	"math/rand"
	"slices"
	"testing"

	"polder/api"
	"polder/bits"
)

// outcome is what a function returned: its error, and whether its other result is zero.
type outcome struct {
	name string
	e    api.Errno
	zero bool
}

func ofNumber(name string) func(n int, e api.Errno) outcome {
	return func(n int, e api.Errno) outcome { return outcome{name, e, n == 0} }
}

func ofBits(name string) func(b api.BtBits, e api.Errno) outcome {
	return func(b api.BtBits, e api.Errno) outcome { return outcome{name, e, b.N == 0 && len(b.Words) == 0} }
}

// callAll calls all functions with bits, with these bits and numbers.
func callAll(a, b api.BtBits, x, y int) []outcome {
	on := x%2 == 0
	is, isE := bits.Get(b, x)
	runs, runsE := bits.Runs(b, on)
	return []outcome{
		{"Get", isE, !is},
		{"Runs", runsE, len(runs) == 0},
		ofBits("Set")(bits.Set(b, x, y, on)),
		ofNumber("Count")(bits.Count(b, x, y)),
		ofNumber("Select")(bits.Select(b, x, on)),
		ofNumber("Next")(bits.Next(b, x, on)),
		ofNumber("Last")(bits.Last(b, x, on)),
		ofNumber("Fit")(bits.Fit(b, x, y)),
		ofNumber("Best")(bits.Best(b, x)),
		ofNumber("Block")(bits.Block(b, x)),
		ofBits("And")(bits.And(a, b)),
		ofBits("Or")(bits.Or(a, b)),
		ofBits("Less")(bits.Less(a, b)),
		ofBits("Flip")(bits.Flip(b)),
	}
}

// notValid returns bits that are not valid, each with the error of Check.
func notValid() map[*api.BtBits]api.Errno {
	return map[*api.BtBits]api.Errno{
		{N: -1}:                                  api.ErrRange,
		{N: math.MinInt, Words: []uint64{1}}:     api.ErrRange,
		{N: 4097, Words: make([]uint64, 65)}:     api.ErrRange,
		{N: math.MaxInt, Words: []uint64{1}}:     api.ErrRange,
		{N: 0, Words: []uint64{0}}:               api.ErrForm,
		{N: 10}:                                  api.ErrForm,
		{N: 10, Words: []uint64{0, 0}}:           api.ErrForm,
		{N: 10, Words: []uint64{1 << 10}}:        api.ErrForm,
		{N: 65, Words: []uint64{math.MaxUint64}}: api.ErrForm,
		{N: 4096, Words: make([]uint64, 63)}:     api.ErrForm,
	}
}

// P2.1, R2: the error of Check is the first one, whatever else is wrong
func TestErrorOfCheckIsFirst(t *testing.T) {
	for b, want := range notValid() {
		if e := bits.Check(*b); e != want {
			t.Errorf("Check(%v): %d, want %d", *b, e, want)
		}
		for _, x := range []int{math.MinInt, -1, 0, 1, 5, 11, 4096, math.MaxInt} {
			for _, y := range []int{math.MinInt, -1, 0, 4, 11, math.MaxInt} {
				for _, o := range callAll(*b, *b, x, y) {
					if o.e != want || !o.zero {
						t.Errorf("%s(%v, %d, %d): %d, zero %v, want %d", o.name, *b, x, y, o.e, o.zero, want)
					}
				}
			}
		}
	}
}

// P2.1, P2.6: for a, then for b, and both before the error of bits that are not as many
func TestErrorsOfTwo(t *testing.T) {
	for a, wantA := range notValid() {
		for b, wantB := range notValid() {
			for _, x := range joins {
				if r, e := x.f(*a, *b); e != wantA || r.N != 0 || len(r.Words) != 0 {
					t.Errorf("%s(%v, %v): %d, want %d", x.name, *a, *b, e, wantA)
				}
				if r, e := x.f(ten(), *b); e != wantB || r.N != 0 || len(r.Words) != 0 {
					t.Errorf("%s(valid, %v): %d, want %d", x.name, *b, e, wantB)
				}
				if r, e := x.f(*a, ten()); e != wantA || r.N != 0 || len(r.Words) != 0 {
					t.Errorf("%s(%v, valid): %d, want %d", x.name, *a, e, wantA)
				}
			}
		}
	}
}

// P2.11, R1, R2: all arguments are accepted, and nothing is returned with an error
func TestAllArguments(t *testing.T) {
	r := rand.New(rand.NewSource(13))
	numbers := append(slices.Clone(edges), extremes...)
	for range 200000 {
		b := api.BtBits{N: numbers[r.Intn(len(numbers))], Words: make([]uint64, r.Intn(4))}
		if r.Intn(3) > 0 {
			b = packed(randomBits(r, r.Intn(200)))
		}
		if len(b.Words) > 0 {
			b.Words[r.Intn(len(b.Words))] &= r.Uint64()
			b.Words[r.Intn(len(b.Words))] |= r.Uint64() & r.Uint64() & r.Uint64() & r.Uint64()
		}
		x, y := numbers[r.Intn(len(numbers))], numbers[r.Intn(len(numbers))]
		for _, o := range callAll(ten(), b, x, y) {
			if o.e != api.OK && !o.zero {
				t.Fatalf("%s(%v, %d, %d): a result with the error %d", o.name, b, x, y, o.e)
			}
		}
	}
}

// P2.11, R3: arguments are not modified, nor what is behind their words
func TestArgumentsStay(t *testing.T) {
	r := rand.New(rand.NewSource(14))
	for range 2000 {
		n := 1 + r.Intn(300)
		a, b := packed(randomBits(r, n)), packed(randomBits(r, n))
		b.Words = append(b.Words, 77, 78)[:len(b.Words)]
		keptA, keptB := slices.Clone(a.Words), slices.Clone(b.Words[:cap(b.Words)])
		from := r.Intn(n)
		bits.Check(b)
		callAll(a, b, from, from+r.Intn(n-from+1))
		callAll(a, b, r.Intn(13), r.Intn(n))
		if !slices.Equal(a.Words, keptA) || !slices.Equal(b.Words[:cap(b.Words)], keptB) {
			t.Fatalf("an argument was changed: %v, %v, %v, %v", a, keptA, b, keptB)
		}
	}
}

// P2.11, R3: what is done to a result is seen neither in an argument nor in another result
func TestResultsAreFresh(t *testing.T) {
	for _, n := range []int{1, 10, 64, 130, 4096} {
		a, b := full(n), empty(n)
		for name, f := range map[string]func() (api.BtBits, api.Errno){
			"New":             func() (api.BtBits, api.Errno) { return bits.New(n, true) },
			"Set":             func() (api.BtBits, api.Errno) { return bits.Set(a, 0, 1, true) },
			"Set of no bit":   func() (api.BtBits, api.Errno) { return bits.Set(a, 1, 1, false) },
			"And":             func() (api.BtBits, api.Errno) { return bits.And(a, a) },
			"Or":              func() (api.BtBits, api.Errno) { return bits.Or(a, b) },
			"Or, other order": func() (api.BtBits, api.Errno) { return bits.Or(b, a) },
			"Less":            func() (api.BtBits, api.Errno) { return bits.Less(a, b) },
			"Flip":            func() (api.BtBits, api.Errno) { return bits.Flip(b) },
		} {
			for range 2 {
				x, e := f()
				if e != api.OK || !equal(x, full(n)) {
					t.Errorf("%s, %d bits: %v, %d", name, n, x, e)
				}
				clear(x.Words[:cap(x.Words)])
				if !equal(a, full(n)) || !equal(b, empty(n)) {
					t.Fatalf("%s, %d bits: the result shares memory with an argument", name, n)
				}
			}
		}
	}
	for range 2 {
		runs, _ := bits.Runs(ten(), true)
		if !slices.Equal(runs, []api.BtRun{{From: 0, To: 2}, {From: 4, To: 5}, {From: 9, To: 10}}) {
			t.Errorf("Runs: %v", runs)
		}
		clear(runs[:cap(runs)])
	}
}

// R4: nil words and empty ones mean the same
func TestNilWords(t *testing.T) {
	none, nils := api.BtBits{Words: []uint64{}}, api.BtBits{}
	for _, x := range []int{-1, 0, 1} {
		for i, o := range callAll(nils, none, x, 0) {
			for _, other := range [][]outcome{callAll(none, nils, x, 0), callAll(nils, nils, x, 0), callAll(none, none, x, 0)} {
				if o != other[i] {
					t.Errorf("%v, but %v", o, other[i])
				}
			}
			if !o.zero {
				t.Errorf("%s of no bits: not zero", o.name)
			}
		}
	}
}
