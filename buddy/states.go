package buddy

import (
	"slices"

	"polder/api"
)

// Load returns an allocator with the state s.
func Load(s api.BuState) (*Buddy, api.Errno) {
	b, e := New(s.Order)
	if e != api.OK {
		return nil, e
	}
	if !slices.IsSortedFunc(s.Given, byPage) {
		return nil, api.ErrForm
	}
	for _, x := range s.Given {
		if b.AllocAt(x.Page, x.Order) != api.OK {
			return nil, api.ErrForm
		}
	}
	return b, api.OK
}

// Save returns the state.
func (b *Buddy) Save() api.BuState {
	if !b.isMade() {
		return api.BuState{}
	}
	return api.BuState{Order: b.order, Given: b.given.list()}
}
