package vmpage

import (
	"polder/api"
	"polder/refusals"
)

// call is what a call of the system does: its kind, what it says of a page that it is not possible for, and what it makes of a page.
type call struct {
	kind   int
	check  func(p *pageInfo) api.Errno
	change func(p *pageInfo)
}

// turn returns the call of a kind that makes pages of the kind from pages of the kind to.
func turn(kind, from, to int) call {
	return call{
		kind: kind,
		check: func(p *pageInfo) api.Errno {
			if p.kind != from || p.huge {
				return api.ErrDown
			}
			return api.OK
		},
		change: func(p *pageInfo) { *p = pageInfo{kind: to} },
	}
}

// join returns the call that makes pages those of a huge page.
func join() call {
	return call{
		kind: api.RfJoin,
		check: func(p *pageInfo) api.Errno {
			if p.kind != api.VmCommitted {
				return api.ErrDown
			}
			if p.huge {
				return api.ErrTwice
			}
			return api.OK
		},
		change: func(p *pageInfo) { p.huge = true },
	}
}

// split returns the call that makes pages of a huge page single ones.
func split() call {
	return call{
		kind: api.RfSplit,
		check: func(p *pageInfo) api.Errno {
			if !p.huge {
				return api.ErrDown
			}
			return api.OK
		},
		change: func(p *pageInfo) { p.huge = false },
	}
}

// Reserve makes free pages reserved.
func (s *System) Reserve(page, n int) api.Errno {
	return s.onPages(turn(api.RfReserve, api.VmFree, api.VmReserved), page, n)
}

// Release makes reserved pages free.
func (s *System) Release(page, n int) api.Errno {
	return s.onPages(turn(api.RfRelease, api.VmReserved, api.VmFree), page, n)
}

// Commit makes reserved pages committed.
func (s *System) Commit(page, n int) api.Errno {
	return s.onPages(turn(api.RfCommit, api.VmReserved, api.VmCommitted), page, n)
}

// Decommit makes committed pages reserved.
func (s *System) Decommit(page, n int) api.Errno {
	return s.onPages(turn(api.RfDecommit, api.VmCommitted, api.VmReserved), page, n)
}

// Protect makes reserved pages guards, and back.
func (s *System) Protect(page, n int, guard bool) api.Errno {
	if guard {
		return s.onPages(turn(api.RfProtect, api.VmReserved, api.VmGuard), page, n)
	}
	return s.onPages(turn(api.RfProtect, api.VmGuard, api.VmReserved), page, n)
}

// Join makes a huge page.
func (s *System) Join(page int) api.Errno {
	return s.onGroup(join(), page)
}

// Split makes a huge page single pages.
func (s *System) Split(page int) api.Errno {
	return s.onGroup(split(), page)
}

// onPages does a call to n pages from first on.
func (s *System) onPages(c call, first, n int) api.Errno {
	if !s.made() {
		return api.ErrNil
	}
	if !arePages(first, n) {
		return api.ErrRange
	}
	return s.do(c, first, n)
}

// onGroup does a call to the pages of a group.
func (s *System) onGroup(c call, first int) api.Errno {
	if !s.made() {
		return api.ErrNil
	}
	if !isGroup(first) {
		return api.ErrRange
	}
	return s.do(c, first, api.HugePages)
}

// do does a call to n pages from first on, if it is possible for all of them and not refused.
func (s *System) do(c call, first, n int) api.Errno {
	if e := s.possible(c, first, n); e != api.OK {
		return e
	}
	if s.refused(c.kind) {
		return ErrRefused
	}
	s.change(c, first, n)
	return api.OK
}

// possible returns OK if a call is possible for n pages from first on.
func (s *System) possible(c call, first, n int) api.Errno {
	for _, p := range s.from(first, n) {
		if e := c.check(p); e != api.OK {
			return e
		}
	}
	return api.OK
}

// change makes of n pages from first on what a call makes of them.
func (s *System) change(c call, first, n int) {
	for _, p := range s.from(first, n) {
		c.change(p)
	}
}

// refused counts a call of a kind, and reports whether it is refused.
func (s *System) refused(kind int) bool {
	next, is, e := refusals.Next(s.refusals, kind)
	if e != api.OK { // MaxRfCalls calls were made: there is nothing else that can be wrong in the refusals of a system
		return false
	}
	s.refusals = next
	return is
}
