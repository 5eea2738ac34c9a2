package spans

import (
	"cmp"
	"slices"

	"polder/api"
)

// Union returns the set of the pages that are in a or b.
func Union(a, b []api.SpSpan) ([]api.SpSpan, api.Errno) {
	if e := checkBoth(a, b); e != api.OK {
		return nil, e
	}
	return join(a, b), api.OK
}

// Meet returns the set of the pages that are in a and in b.
func Meet(a, b []api.SpSpan) ([]api.SpSpan, api.Errno) {
	if e := checkBoth(a, b); e != api.OK {
		return nil, e
	}
	return others(join(others(a), others(b))), api.OK
}

// Minus returns the set of the pages that are in a and not in b.
func Minus(a, b []api.SpSpan) ([]api.SpSpan, api.Errno) {
	if e := checkBoth(a, b); e != api.OK {
		return nil, e
	}
	return others(join(others(a), b)), api.OK
}

// Not returns the set of the pages of in that are not in s.
func Not(s []api.SpSpan, in api.SpSpan) ([]api.SpSpan, api.Errno) {
	if e := checkWith(s, in); e != api.OK {
		return nil, e
	}
	return gaps(s, in), api.OK
}

// checkBoth returns the error of Check for a, or else that for b.
func checkBoth(a, b []api.SpSpan) api.Errno {
	if e := Check(a); e != api.OK {
		return e
	}
	return Check(b)
}

// join returns the set of the pages that are in one of the lists at least. Their spans may be in any order, and overlap, but must be valid.
func join(lists ...[]api.SpSpan) []api.SpSpan {
	all := slices.Concat(lists...)
	slices.SortFunc(all, func(x, y api.SpSpan) int { return cmp.Compare(x.Page, y.Page) })
	var joined []api.SpSpan
	for _, x := range all {
		last := len(joined) - 1
		if last < 0 || x.Page > end(joined[last]) {
			joined = append(joined, x)
		} else {
			joined[last].Pages = max(joined[last].Pages, end(x)-joined[last].Page)
		}
	}
	return joined
}

// others returns the set of all pages that are not in the set s.
func others(s []api.SpSpan) []api.SpSpan {
	return gaps(s, api.SpSpan{Page: 0, Pages: api.VmPages})
}

// gaps returns the set of the pages of in that are not in the set s.
func gaps(s []api.SpSpan, in api.SpSpan) []api.SpSpan {
	var found []api.SpSpan
	at := in.Page
	addUpTo := func(to int) {
		if at < to {
			found = append(found, api.SpSpan{Page: at, Pages: to - at})
		}
	}
	for _, x := range s {
		addUpTo(min(x.Page, end(in)))
		at = max(at, end(x))
	}
	addUpTo(end(in))
	return found
}
