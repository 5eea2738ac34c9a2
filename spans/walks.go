package spans

import (
	"iter"
	"slices"

	"polder/api"
)

// Pages goes through the pages of s, ascending, or through none if s is not a set.
func Pages(s []api.SpSpan) iter.Seq[int] {
	single := Pieces(s, 1)
	return func(yield func(int) bool) {
		for piece := range single {
			if !yield(piece.Page) {
				return
			}
		}
	}
}

// Pieces goes through the pages of s in pieces, ascending, which end where a span ends and before each multiple of size. It goes through none if s is not a set, or size is not from 1 to VmPages.
func Pieces(s []api.SpSpan, size int) iter.Seq[api.SpSpan] {
	if Check(s) != api.OK || size < 1 || size > api.VmPages {
		return func(func(api.SpSpan) bool) {}
	}
	kept := slices.Clone(s) // the caller may change s before the sequence is gone through
	return func(yield func(api.SpSpan) bool) {
		for _, x := range kept {
			for at := x.Page; at < end(x); {
				to := min(end(x), at-at%size+size)
				if !yield(api.SpSpan{Page: at, Pages: to - at}) {
					return
				}
				at = to
			}
		}
	}
}
