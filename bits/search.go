package bits

import (
	"iter"
	"math/bits"
	"slices"

	"polder/api"
)

// maxOrder is the order of a block of MaxBits bits.
const maxOrder = 12

// Select returns the set bit (the clear one, if on is false) before which there are k others.
func Select(b api.BtBits, k int, on bool) (int, api.Errno) {
	if e := Check(b); e != api.OK {
		return 0, e
	}
	if k < 0 {
		return 0, api.ErrRange
	}
	for w, found := range matches(b, 0, b.N, on) {
		n := bits.OnesCount64(found)
		if k < n {
			return w*wordBits + bitAfter(found, k), api.OK
		}
		k -= n
	}
	return 0, api.ErrNone
}

// bitAfter returns the set bit of a word before which there are k others.
func bitAfter(word uint64, k int) int {
	for range k {
		word &= word - 1 // without its lowest set bit
	}
	return bits.TrailingZeros64(word)
}

// Next returns the first bit from from on that is set (clear, if on is false).
func Next(b api.BtBits, from int, on bool) (int, api.Errno) {
	if e := checkRun(b, from, b.N); e != api.OK {
		return 0, e
	}
	at := next(b, from, on)
	if at == b.N {
		return 0, api.ErrNone
	}
	return at, api.OK
}

// next returns the first bit from from on that is set (clear, if on is false), or N if there is none.
func next(b api.BtBits, from int, on bool) int {
	for w, found := range matches(b, from, b.N, on) {
		if found != 0 {
			return w*wordBits + bits.TrailingZeros64(found)
		}
	}
	return b.N
}

// Last returns the last bit below to that is set (clear, if on is false).
func Last(b api.BtBits, to int, on bool) (int, api.Errno) {
	if e := checkRun(b, 0, to); e != api.OK {
		return 0, e
	}
	last := -1
	for w, found := range matches(b, 0, to, on) {
		if found != 0 {
			last = w*wordBits + bits.Len64(found) - 1
		}
	}
	if last < 0 {
		return 0, api.ErrNone
	}
	return last, api.OK
}

// Runs returns the runs of set bits (of clear ones, if on is false), ascending.
func Runs(b api.BtBits, on bool) ([]api.BtRun, api.Errno) {
	if e := Check(b); e != api.OK {
		return nil, e
	}
	return slices.Collect(runsFrom(b, 0, on)), api.OK
}

// runsFrom yields the runs of set bits (of clear ones, if on is false) among the bits from from on, ascending.
func runsFrom(b api.BtBits, from int, on bool) iter.Seq[api.BtRun] {
	return func(yield func(api.BtRun) bool) {
		for start := next(b, from, on); start < b.N; {
			end := next(b, start, !on)
			if !yield(api.BtRun{From: start, To: end}) {
				return
			}
			start = next(b, end, on)
		}
	}
}

// Fit returns where the first size clear bits, one after the other, begin that begin at from or after it.
func Fit(b api.BtBits, size, from int) (int, api.Errno) {
	if e := checkSize(b, size); e != api.OK {
		return 0, e
	}
	if from < 0 || from > b.N {
		return 0, api.ErrRange
	}
	for run := range runsFrom(b, from, false) {
		if run.To-run.From >= size {
			return run.From, api.OK
		}
	}
	return 0, api.ErrNone
}

// Best returns where the shortest run of at least size clear bits begins, the first one of several.
func Best(b api.BtBits, size int) (int, api.Errno) {
	if e := checkSize(b, size); e != api.OK {
		return 0, e
	}
	best, shortest := 0, api.MaxBits+1
	for run := range runsFrom(b, 0, false) {
		length := run.To - run.From
		if length >= size && length < shortest {
			best, shortest = run.From, length
		}
	}
	if shortest > api.MaxBits {
		return 0, api.ErrNone
	}
	return best, api.OK
}

// checkSize returns OK if b is valid and size is a number of bits that may be searched.
func checkSize(b api.BtBits, size int) api.Errno {
	if e := Check(b); e != api.OK {
		return e
	}
	if size < 1 {
		return api.ErrArg
	}
	return api.OK
}

// Block returns where the first block of the order of clear bits begins.
func Block(b api.BtBits, order int) (int, api.Errno) {
	if e := Check(b); e != api.OK {
		return 0, e
	}
	if order < 0 || order > maxOrder {
		return 0, api.ErrRange
	}
	size := 1 << order
blocks:
	for at := 0; at+size <= b.N; at += size {
		for w, mask := range pieces(at, at+size) {
			if b.Words[w]&mask != 0 {
				continue blocks
			}
		}
		return at, api.OK
	}
	return 0, api.ErrNone
}
