package links

import "polder/api"

// Check returns what is wrong in s, and ErrForm, or OK if it is right.
func Check[T any](s api.LkState[T]) (api.LkWrong, api.Errno) {
	if !rightSizes(s) {
		return api.LkWrong{Where: api.LkSizes}, api.ErrForm
	}
	for slot := range s.List {
		if !rightSlot(s, slot) {
			return api.LkWrong{Where: api.LkSlot, Index: slot}, api.ErrForm
		}
	}
	met := make([]bool, len(s.List))
	for list := range s.First {
		if !meet(s, list, met) {
			return api.LkWrong{Where: api.LkList, Index: list}, api.ErrForm
		}
	}
	for slot, list := range s.List {
		if list != none && !met[slot] {
			return api.LkWrong{Where: api.LkSlot, Index: slot}, api.ErrForm
		}
	}
	return api.LkWrong{}, api.OK
}

// rightSizes reports whether the slices of s have the lengths of those of a pool.
func rightSizes[T any](s api.LkState[T]) bool {
	slots, lists := len(s.List), len(s.First)
	return validSizes(slots, lists) &&
		len(s.Values) == slots && len(s.Next) == slots && len(s.Prev) == slots && len(s.Last) == lists
}

// rightSlot reports whether the numbers of a slot are in their ranges, and those of a free slot are none.
func rightSlot[T any](s api.LkState[T], slot int) bool {
	list, next, prev := s.List[slot], s.Next[slot], s.Prev[slot]
	if list == none {
		return next == none && prev == none
	}
	return within(list, len(s.First)) && withinOrNone(next, len(s.List)) && withinOrNone(prev, len(s.List))
}

// withinOrNone reports whether i is the number of one of n things, or none.
func withinOrNone(i, n int) bool {
	return i == none || within(i, n)
}

// meet marks the slots of a list, from its first one on, and reports whether the list is right.
func meet[T any](s api.LkState[T], list int, met []bool) bool {
	before, at := none, s.First[list]
	// This comes to an end: by Prev, each slot that was passed leads back to the first one and to none, so that no slot is passed twice.
	for at != none {
		if !within(at, len(s.List)) || s.List[at] != list || s.Prev[at] != before {
			return false
		}
		met[at] = true
		before, at = at, s.Next[at]
	}
	return before == s.Last[list]
}
