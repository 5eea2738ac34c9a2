package links

import (
	"slices"

	"polder/api"
)

// Push puts v into the free slot with the least number, which becomes the first slot of the list, or the last one.
func (p *Pool[T]) Push(list int, v T, front bool) (slot int, e api.Errno) {
	if e := p.checkList(list); e != api.OK {
		return 0, e
	}
	before, after := p.atEnd(list, front)
	return p.insert(v, list, before, after)
}

// After puts v into the free slot with the least number, which then stands directly after slot, in its list.
func (p *Pool[T]) After(slot int, v T) (next int, e api.Errno) {
	if e := p.checkSlot(slot); e != api.OK {
		return 0, e
	}
	return p.insert(v, p.state.List[slot], slot, p.state.Next[slot])
}

// Take frees the slot, and returns its value.
func (p *Pool[T]) Take(slot int) (v T, e api.Errno) {
	if e := p.checkSlot(slot); e != api.OK {
		return v, e
	}
	p.unlink(slot)
	v, p.state.Values[slot] = p.state.Values[slot], v
	return v, api.OK
}

// Move makes the slot the first or last one of the list.
func (p *Pool[T]) Move(slot, list int, front bool) api.Errno {
	if e := p.checkSlot(slot); e != api.OK {
		return e
	}
	if e := p.checkList(list); e != api.OK {
		return e
	}
	p.unlink(slot) // first, as the slot may be at this end of this list
	before, after := p.atEnd(list, front)
	p.link(slot, list, before, after)
	return api.OK
}

// Put sets the value of the slot.
func (p *Pool[T]) Put(slot int, v T) api.Errno {
	if e := p.checkSlot(slot); e != api.OK {
		return e
	}
	p.state.Values[slot] = v
	return api.OK
}

// atEnd returns between which slots one stands that becomes the first or last one of a list.
func (p *Pool[T]) atEnd(list int, front bool) (before, after int) {
	if front {
		return none, p.state.First[list]
	}
	return p.state.Last[list], none
}

// insert puts v into the free slot with the least number, between two neighbours in a list.
func (p *Pool[T]) insert(v T, list, before, after int) (slot int, e api.Errno) {
	slot = slices.Index(p.state.List, none)
	if slot < 0 {
		return 0, api.ErrFull
	}
	p.state.Values[slot] = v
	p.link(slot, list, before, after)
	return slot, api.OK
}

// link puts a slot that is in no list between two neighbours in a list.
func (p *Pool[T]) link(slot, list, before, after int) {
	p.state.List[slot] = list
	p.join(list, before, slot)
	p.join(list, slot, after)
}

// unlink takes a slot out of its list.
func (p *Pool[T]) unlink(slot int) {
	p.join(p.state.List[slot], p.state.Prev[slot], p.state.Next[slot])
	p.state.List[slot], p.state.Prev[slot], p.state.Next[slot] = none, none, none
}

// join makes two slots neighbours in a list. If one of them is none, the other is at this end of the list.
func (p *Pool[T]) join(list, before, after int) {
	if before == none {
		p.state.First[list] = after
	} else {
		p.state.Next[before] = after
	}
	if after == none {
		p.state.Last[list] = before
	} else {
		p.state.Prev[after] = before
	}
}
