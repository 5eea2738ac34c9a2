package vmpage

import (
	"slices"

	"polder/api"
	"polder/refusals"
)

// Load returns the system with a state.
func Load(s api.VmState) (*System, api.Errno) {
	if e := refusals.CheckState(s.Refusals); e != api.OK {
		return nil, e
	}
	loaded := unused(cloneRefusals(s.Refusals))
	if !loaded.layRuns(s.Runs) || !loaded.layHuge(s.Huge) || !loaded.layData(s.Data) {
		return nil, api.ErrForm
	}
	return loaded, api.OK
}

// Save returns the state.
func (s *System) Save() api.VmState {
	if !s.made() {
		return api.VmState{}
	}
	saved := api.VmState{Refusals: cloneRefusals(s.refusals)}
	for page, p := range s.from(0, api.VmPages) {
		saved.Runs = lengthen(saved.Runs, page, p.kind)
		if p.huge && isGroup(page) {
			saved.Huge = append(saved.Huge, page)
		}
		if !isZero(p.bytes) {
			saved.Data = append(saved.Data, api.VmData{Page: page, Bytes: p.bytes})
		}
	}
	return saved
}

// cloneRefusals returns refusals equal to r that share no memory with it.
func cloneRefusals(r api.RfState) api.RfState {
	r.Plan.Rules = slices.Clone(r.Plan.Rules)
	return r
}

// isZero reports whether all bytes are 0.
func isZero(bytes [api.PageBytes]byte) bool {
	return bytes == [api.PageBytes]byte{}
}

// lengthen returns the runs of pages below page, and of this page, which has a kind.
func lengthen(runs []api.VmRun, page, kind int) []api.VmRun {
	if kind == api.VmFree {
		return runs
	}
	if last := len(runs) - 1; last >= 0 && runs[last].Kind == kind && end(runs[last]) == page {
		runs[last].Pages++
		return runs
	}
	return append(runs, api.VmRun{Page: page, Pages: 1, Kind: kind})
}

// end returns the page that follows r.
func end(r api.VmRun) int {
	return r.Page + r.Pages
}

// layRuns gives free pages their kinds, and reports whether the runs are those of a state.
func (s *System) layRuns(runs []api.VmRun) bool {
	var before api.VmRun
	for _, r := range runs {
		if r.Kind < api.VmReserved || r.Kind > api.VmGuard || !arePages(r.Page, r.Pages) {
			return false
		}
		if r.Page < end(before) || r.Page == end(before) && r.Kind == before.Kind {
			return false
		}
		for _, p := range s.from(r.Page, r.Pages) {
			p.kind = r.Kind
		}
		before = r
	}
	return true
}

// layHuge makes the huge pages, and reports whether they are those of a state.
func (s *System) layHuge(huge []int) bool {
	for i, first := range huge {
		if i > 0 && first <= huge[i-1] || !isGroup(first) || s.possible(join(), first, api.HugePages) != api.OK {
			return false
		}
		s.change(join(), first, api.HugePages)
	}
	return true
}

// layData gives committed pages their bytes, and reports whether these are those of a state.
func (s *System) layData(data []api.VmData) bool {
	for i, d := range data {
		if i > 0 && d.Page <= data[i-1].Page || !arePages(d.Page, 1) || isZero(d.Bytes) {
			return false
		}
		p := &s.pages[d.Page]
		if p.kind != api.VmCommitted {
			return false
		}
		p.bytes = d.Bytes
	}
	return true
}
