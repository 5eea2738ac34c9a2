package spans

import (
	"cmp"
	"slices"

	"polder/api"
)

// First returns the least place for so many pages with the alignment in s.
func First(s []api.SpSpan, pages, align int) (int, api.Errno) {
	fit, e := fitting(s, pages, align)
	if e != api.OK {
		return 0, e
	}
	return aligned(fit[0].Page, align), api.OK
}

// Best returns the least place for so many pages with the alignment that lies in a span of s with as few pages as possible.
func Best(s []api.SpSpan, pages, align int) (int, api.Errno) {
	fit, e := fitting(s, pages, align)
	if e != api.OK {
		return 0, e
	}
	// The first one of several spans with as few pages has the least place.
	smallest := slices.MinFunc(fit, func(x, y api.SpSpan) int { return cmp.Compare(x.Pages, y.Pages) })
	return aligned(smallest.Page, align), api.OK
}

// fitting returns the spans of s that have a place for so many pages with the alignment, at least one, ascending.
func fitting(s []api.SpSpan, pages, align int) ([]api.SpSpan, api.Errno) {
	if e := Check(s); e != api.OK {
		return nil, e
	}
	if pages < 1 || pages > api.VmPages || !validAlign(align) {
		return nil, api.ErrArg
	}
	var fit []api.SpSpan
	for _, x := range s {
		if aligned(x.Page, align)+pages <= end(x) {
			fit = append(fit, x)
		}
	}
	if len(fit) == 0 {
		return nil, api.ErrNone
	}
	return fit, api.OK
}

// validAlign reports whether align is a power of two from 1 to VmPages.
func validAlign(align int) bool {
	return align >= 1 && align <= api.VmPages && align&(align-1) == 0
}

// aligned returns the least multiple of align that is not less than page.
func aligned(page, align int) int {
	return (page + align - 1) / align * align
}
