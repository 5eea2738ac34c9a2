package links

import (
	"iter"

	"polder/api"
)

// Get returns the value of the slot.
func (p *Pool[T]) Get(slot int) (v T, e api.Errno) {
	if e := p.checkSlot(slot); e != api.OK {
		return v, e
	}
	return p.state.Values[slot], api.OK
}

// Where returns the list in which the slot is.
func (p *Pool[T]) Where(slot int) (list int, e api.Errno) {
	if e := p.checkSlot(slot); e != api.OK {
		return 0, e
	}
	return p.state.List[slot], api.OK
}

// End returns the first slot of the list, or its last one.
func (p *Pool[T]) End(list int, front bool) (slot int, e api.Errno) {
	if e := p.checkList(list); e != api.OK {
		return 0, e
	}
	slot = p.end(list, front)
	if slot == none {
		return 0, api.ErrNone
	}
	return slot, api.OK
}

// Step returns the slot after this one, or before it.
func (p *Pool[T]) Step(slot int, back bool) (next int, e api.Errno) {
	if e := p.checkSlot(slot); e != api.OK {
		return 0, e
	}
	next = p.neighbour(slot, back)
	if next == none {
		return 0, api.ErrDown
	}
	return next, api.OK
}

// Len returns how many slots are in the list.
func (p *Pool[T]) Len(list int) (int, api.Errno) {
	if e := p.checkList(list); e != api.OK {
		return 0, e
	}
	n := 0
	for range p.All(list, false) {
		n++
	}
	return n, api.OK
}

// All goes through the slots of the list and their values, from the first to the last one or the other way round, or through none if there is no such list. The slot that is yielded may be taken out, moved or changed meanwhile.
func (p *Pool[T]) All(list int, back bool) iter.Seq2[int, T] {
	return func(yield func(int, T) bool) {
		if p.checkList(list) != api.OK {
			return
		}
		slot := p.end(list, !back)
		// A caller that takes the next slot out of the list ends the walk: it must not go on with free slots, or in another list.
		for slot != none && p.state.List[slot] == list {
			next := p.neighbour(slot, back)
			if !yield(slot, p.state.Values[slot]) {
				return
			}
			slot = next
		}
	}
}

// end returns the first slot of a list, or its last one, or none.
func (p *Pool[T]) end(list int, front bool) int {
	if front {
		return p.state.First[list]
	}
	return p.state.Last[list]
}

// neighbour returns the slot after a slot, or before it, or none.
func (p *Pool[T]) neighbour(slot int, back bool) int {
	if back {
		return p.state.Prev[slot]
	}
	return p.state.Next[slot]
}
