package bits_test

import (
	"math"
	"math/rand"
	"slices"
	"testing"

	"polder/api"
	"polder/bits"
)

// The document's examples of P2.3, P2.4 and P2.5
func TestSearchExamples(t *testing.T) {
	b := ten()
	for i, x := range []struct {
		f    func() (int, api.Errno)
		want int
		e    api.Errno
	}{
		{func() (int, api.Errno) { return bits.Select(b, 2, true) }, 4, api.OK},
		{func() (int, api.Errno) { return bits.Select(b, 2, false) }, 5, api.OK},
		{func() (int, api.Errno) { return bits.Next(b, 2, true) }, 4, api.OK},
		{func() (int, api.Errno) { return bits.Last(b, 4, true) }, 1, api.OK},
		{func() (int, api.Errno) { return bits.Next(b, 10, true) }, 0, api.ErrNone},
		{func() (int, api.Errno) { return bits.Fit(b, 2, 0) }, 2, api.OK},
		{func() (int, api.Errno) { return bits.Fit(b, 3, 0) }, 5, api.OK},
		{func() (int, api.Errno) { return bits.Fit(b, 2, 3) }, 5, api.OK},
		{func() (int, api.Errno) { return bits.Fit(b, 5, 0) }, 0, api.ErrNone},
		{func() (int, api.Errno) { return bits.Best(b, 2) }, 2, api.OK},
		{func() (int, api.Errno) { return bits.Block(b, 1) }, 2, api.OK},
		{func() (int, api.Errno) { return bits.Block(b, 2) }, 0, api.ErrNone},
	} {
		if n, e := x.f(); n != x.want || e != x.e {
			t.Errorf("example %d: %d, %d, want %d, %d", i, n, e, x.want, x.e)
		}
	}
	if l, e := bits.Runs(b, false); !slices.Equal(l, []api.BtRun{{From: 2, To: 4}, {From: 5, To: 9}}) || e != api.OK {
		t.Errorf("Runs(B, clear): %v, %d", l, e)
	}
}

// found is what a search must return for a place, or for -1 if there is none.
func found(at int) (int, api.Errno) {
	if at < 0 {
		return 0, api.ErrNone
	}
	return at, api.OK
}

// check reports a result that is not the wanted one.
func check(t *testing.T, what string, l []bool, arguments []int, n int, e api.Errno, want int, wantE api.Errno) {
	if n != want || e != wantE {
		t.Fatalf("%s(%v, %v): %d, %d, want %d, %d", what, packed(l), arguments, n, e, want, wantE)
	}
}

// like returns the places of the bits of l that are as on says.
func like(l []bool, on bool) []int {
	var at []int
	for i, is := range l {
		if is == on {
			at = append(at, i)
		}
	}
	return at
}

// P2.3 for Select
func TestSelect(t *testing.T) {
	for _, l := range samples() {
		b := packed(l)
		for _, on := range []bool{false, true} {
			at := like(l, on)
			for k, want := range at {
				n, e := bits.Select(b, k, on)
				check(t, "Select", l, []int{k}, n, e, want, api.OK)
			}
			for _, k := range []int{len(at), len(at) + 1, 4096, math.MaxInt32, math.MaxInt} {
				n, e := bits.Select(b, k, on)
				check(t, "Select", l, []int{k}, n, e, 0, api.ErrNone)
			}
			for _, k := range []int{-1, -2, -64, math.MinInt} {
				n, e := bits.Select(b, k, on)
				check(t, "Select", l, []int{k}, n, e, 0, api.ErrRange)
			}
		}
	}
}

// P2.3 for Next and Last
func TestNextAndLast(t *testing.T) {
	r := rand.New(rand.NewSource(5))
	for _, l := range samples() {
		b := packed(l)
		for _, at := range append(places(r, len(l)), extremes...) {
			for _, on := range []bool{false, true} {
				next, nextE := bits.Next(b, at, on)
				last, lastE := bits.Last(b, at, on)
				if at < 0 || at > len(l) {
					check(t, "Next", l, []int{at}, next, nextE, 0, api.ErrRange)
					check(t, "Last", l, []int{at}, last, lastE, 0, api.ErrRange)
					continue
				}
				want, wantE := 0, api.ErrNone
				if i := slices.Index(l[at:], on); i >= 0 {
					want, wantE = at+i, api.OK
				}
				check(t, "Next", l, []int{at}, next, nextE, want, wantE)
				want = at - 1
				for want >= 0 && l[want] != on {
					want--
				}
				want, wantE = found(want)
				check(t, "Last", l, []int{at}, last, lastE, want, wantE)
			}
		}
	}
}

// runsOf returns the runs of l, found bit by bit.
func runsOf(l []bool, on bool) []api.BtRun {
	var runs []api.BtRun
	for i, is := range l {
		if is != on {
			continue
		}
		if n := len(runs); n > 0 && runs[n-1].To == i {
			runs[n-1].To++
		} else {
			runs = append(runs, api.BtRun{From: i, To: i + 1})
		}
	}
	return runs
}

// P2.4
func TestRuns(t *testing.T) {
	for _, l := range samples() {
		for _, on := range []bool{false, true} {
			if runs, e := bits.Runs(packed(l), on); !slices.Equal(runs, runsOf(l, on)) || e != api.OK {
				t.Fatalf("Runs(%v, %v): %v, %d", packed(l), on, runs, e)
			}
		}
	}
}

// P2.4: as many runs as there may be, and bits without any
func TestManyAndNoRuns(t *testing.T) {
	l := make([]bool, 4096)
	for i := 1; i < len(l); i += 2 {
		l[i] = true
	}
	for _, on := range []bool{false, true} {
		if runs, e := bits.Runs(packed(l), on); len(runs) != 2048 || e != api.OK || !slices.Equal(runs, runsOf(l, on)) {
			t.Errorf("Runs of every second bit, %v: %d runs, %d", on, len(runs), e)
		}
	}
	for _, x := range []struct {
		b  api.BtBits
		on bool
	}{{empty(0), true}, {empty(0), false}, {full(70), false}, {empty(70), true}} {
		if runs, e := bits.Runs(x.b, x.on); len(runs) != 0 || e != api.OK {
			t.Errorf("Runs(%v, %v): %v, %d", x.b, x.on, runs, e)
		}
	}
}

// clearAt reports whether the bits of l from at on, size of them, are there and clear.
func clearAt(l []bool, at, size int) bool {
	return at+size <= len(l) && !slices.Contains(l[at:at+size], true)
}

// sizes returns sizes to look for in n bits.
func sizes(r *rand.Rand, n int) []int {
	l := []int{1, 2, 3, 5, 63, 64, 65, 128, n - 1, n, n + 1}
	for range 5 {
		l = append(l, 1+r.Intn(n+1))
	}
	return l
}

// P2.5 for Fit
func TestFit(t *testing.T) {
	r := rand.New(rand.NewSource(6))
	for _, l := range samples() {
		b := packed(l)
		for _, from := range fewer(r, places(r, len(l)), 30) {
			for _, size := range sizes(r, len(l)) {
				n, e := bits.Fit(b, size, from)
				want, wantE := 0, api.ErrNone
				switch {
				case size < 1:
					wantE = api.ErrArg
				case from < 0 || from > len(l):
					wantE = api.ErrRange
				default:
					for i := len(l) - size; i >= from; i-- {
						if clearAt(l, i, size) {
							want, wantE = i, api.OK
						}
					}
				}
				check(t, "Fit", l, []int{size, from}, n, e, want, wantE)
			}
		}
	}
}

// P2.5: which error of Fit comes first, and numbers far from any bit
func TestFitErrors(t *testing.T) {
	for _, from := range append([]int{0, 5, 10, 11}, extremes...) {
		for _, size := range append([]int{0, 1, 4, 5, 10}, extremes...) {
			n, e := bits.Fit(ten(), size, from)
			switch {
			case size < 1:
				check(t, "Fit", fromText("1100100001"), []int{size, from}, n, e, 0, api.ErrArg)
			case from < 0 || from > 10:
				check(t, "Fit", fromText("1100100001"), []int{size, from}, n, e, 0, api.ErrRange)
			case size > 4 || from > 8:
				check(t, "Fit", fromText("1100100001"), []int{size, from}, n, e, 0, api.ErrNone)
			default:
				if e != api.OK {
					t.Errorf("Fit(B, %d, %d): %d", size, from, e)
				}
			}
		}
	}
}

// P2.5: what begins before from is not found, but the rest of its run is
func TestFitInsideOfARun(t *testing.T) {
	b := packed(fromText("0000 1 000"))
	for _, x := range []struct {
		size, from, want int
		e                api.Errno
	}{
		{4, 0, 0, api.OK}, {3, 0, 0, api.OK}, {3, 1, 1, api.OK}, {3, 2, 5, api.OK}, {4, 1, 0, api.ErrNone},
		{2, 2, 2, api.OK}, {1, 3, 3, api.OK}, {1, 4, 5, api.OK}, {1, 7, 7, api.OK}, {1, 8, 0, api.ErrNone}, {2, 7, 0, api.ErrNone},
	} {
		if n, e := bits.Fit(b, x.size, x.from); n != x.want || e != x.e {
			t.Errorf("Fit(%d, %d): %d, %d, want %d, %d", x.size, x.from, n, e, x.want, x.e)
		}
	}
}

// P2.5 for Best
func TestBest(t *testing.T) {
	r := rand.New(rand.NewSource(7))
	for _, l := range samples() {
		b := packed(l)
		for _, size := range append(sizes(r, len(l)), extremes...) {
			n, e := bits.Best(b, size)
			if size < 1 {
				check(t, "Best", l, []int{size}, n, e, 0, api.ErrArg)
				continue
			}
			fitting := slices.DeleteFunc(runsOf(l, false), func(x api.BtRun) bool { return x.To-x.From < size })
			slices.SortStableFunc(fitting, func(x, y api.BtRun) int { return (x.To - x.From) - (y.To - y.From) })
			if len(fitting) == 0 {
				check(t, "Best", l, []int{size}, n, e, 0, api.ErrNone)
			} else {
				check(t, "Best", l, []int{size}, n, e, fitting[0].From, api.OK)
			}
		}
		n, e := bits.Best(b, 0)
		check(t, "Best", l, []int{0}, n, e, 0, api.ErrArg)
	}
}

// P2.5: the shortest run that is long enough, the first one of several
func TestBestOfSeveral(t *testing.T) {
	b := packed(fromText("00000 1 00 1 000 1 00 1 000 1 0000"))
	for size, want := range map[int]int{1: 6, 2: 6, 3: 9, 4: 20, 5: 0} {
		if n, e := bits.Best(b, size); n != want || e != api.OK {
			t.Errorf("Best(%d): %d, %d, want %d", size, n, e, want)
		}
	}
	if n, e := bits.Best(b, 6); n != 0 || e != api.ErrNone {
		t.Errorf("Best(6): %d, %d", n, e)
	}
}

// P2.5 for Block
func TestBlock(t *testing.T) {
	for _, l := range samples() {
		b := packed(l)
		for order := range 13 {
			want := -1
			for at := 0; at+1<<order <= len(l) && want < 0; at += 1 << order {
				if clearAt(l, at, 1<<order) {
					want = at
				}
			}
			n, e := bits.Block(b, order)
			want, wantE := found(want)
			check(t, "Block", l, []int{order}, n, e, want, wantE)
		}
		for _, order := range []int{-1, 13, 63, 64, 65, math.MinInt, math.MaxInt} {
			n, e := bits.Block(b, order)
			check(t, "Block", l, []int{order}, n, e, 0, api.ErrRange)
		}
	}
}

// P2.5: a single set bit in front of a block, in it, and behind it
func TestBlockAroundABit(t *testing.T) {
	for order := range 13 {
		size := 1 << order
		for _, n := range []int{size - 1, size, size + 1, 2*size - 1, 2 * size, 3 * size} {
			if n > api.MaxBits {
				continue
			}
			for _, bit := range []int{-1, 0, size / 2, size - 1, size, 2*size - 1} {
				l := make([]bool, n)
				if bit >= 0 && bit < n {
					l[bit] = true
				}
				want := -1
				for at := 2 * size; at >= 0; at -= size {
					if clearAt(l, at, size) {
						want = at
					}
				}
				got, e := bits.Block(packed(l), order)
				want, wantE := found(want)
				check(t, "Block", l, []int{order}, got, e, want, wantE)
			}
		}
	}
}
