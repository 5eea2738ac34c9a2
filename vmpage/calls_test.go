package vmpage_test

import (
	"math"
	"slices"
	"testing"

	"polder/api"
	"polder/vmpage"
)

// A page of a huge page stands for itself in lists of kinds.
const huge = -1

// kindsState returns a state that has pages of the kinds from first on: first is a multiple of 16, if one of them is huge, and all 16 pages of its group are.
func kindsState(first int, kinds []int, p api.RfPlan) api.VmState {
	m := newModel(p)
	for i, kind := range kinds {
		if kind == huge {
			m.huge[(first+i)/16*16] = true
			kind = api.VmCommitted
		}
		m.is(first+i, kind)
	}
	return m.state()
}

// P6.3: all calls to three pages of all kinds, in the middle, and at both ends
func TestChangesOfThreePages(t *testing.T) {
	for _, c := range changes {
		for code := range 4 * 4 * 4 {
			kinds := []int{code % 4, code / 4 % 4, code / 16}
			for _, first := range []int{0, 500, 1021} {
				x := kindsState(first, kinds, noRules)
				s := load(t, x)
				want := api.OK
				if slices.ContainsFunc(kinds, func(kind int) bool { return kind != c.from }) {
					want = api.ErrDown
				} else {
					x = kindsState(first, []int{c.to, c.to, c.to}, noRules)
					x.Refusals.Calls[c.call] = 1
				}
				check(t, action{name: c.name, page: first, n: 3}.on(s), of(0, want), c.name, " of ", kinds, " at ", first)
				checkState(t, s, x, c.name, " of ", kinds, " at ", first)
			}
		}
	}
}

// P6.3: pages that there are, and such that are not all there
func TestRanges(t *testing.T) {
	numbers := append([]int{0, 1, 2, 15, 16, 511, 1022, 1023, 1024, 1025, 2048, math.MaxInt - 1022, math.MaxInt - 1023}, extremes...)
	for _, c := range changes {
		all := slices.Repeat([]int{c.from}, 1024)
		x := kindsState(0, all, noRules)
		for _, page := range numbers {
			for _, n := range numbers {
				there := page >= 0 && page < 1024 && n >= 1 && n <= 1024 && page+n <= 1024
				s := load(t, x)
				want, wantState := api.ErrRange, x
				if there {
					kinds := slices.Clone(all)
					copy(kinds[page:], slices.Repeat([]int{c.to}, n))
					want, wantState = api.OK, kindsState(0, kinds, noRules)
					wantState.Refusals.Calls[c.call] = 1
				}
				check(t, action{name: c.name, page: page, n: n}.on(s), of(0, want), c.name, " of ", page, ", ", n)
				checkState(t, s, wantState, c.name, " of ", page, ", ", n)
			}
		}
	}
}

// P6.3: one page that is not of the right kind, at any place
func TestOneWrongPage(t *testing.T) {
	for _, c := range changes {
		for kind := range 4 {
			if kind == c.from {
				continue
			}
			for at := range 20 {
				kinds := slices.Repeat([]int{c.from}, 20)
				kinds[at] = kind
				x := kindsState(100, kinds, noRules)
				s := load(t, x)
				check(t, action{name: c.name, page: 100, n: 20}.on(s), of(0, api.ErrDown), c.name, ": ", at, " is ", kind)
				checkState(t, s, x, c.name, ": ", at, " is ", kind)
			}
		}
	}
}

// P6.3: pages of huge pages are committed, but are not decommitted
func TestChangesOfHugePages(t *testing.T) {
	kinds := append(slices.Repeat([]int{api.VmCommitted}, 16), slices.Repeat([]int{huge}, 16)...)
	kinds = append(kinds, slices.Repeat([]int{api.VmCommitted}, 16)...)
	x := kindsState(32, kinds, always(api.RfReserve))
	for _, c := range changes {
		for page := 32; page < 80; page++ {
			for n := 1; page+n <= 80; n++ {
				s := load(t, x)
				want := api.ErrDown
				if c.name == "Decommit" && (page+n <= 48 || page >= 64) {
					want = api.OK
				}
				check(t, action{name: c.name, page: page, n: n}.on(s), of(0, want), c.name, " of ", page, ", ", n)
				if want != api.OK {
					checkState(t, s, x, c.name, " of ", page, ", ", n)
				}
			}
		}
	}
}

// P6.4: groups, pages that are not the first of one, and what is no page
func TestGroups(t *testing.T) {
	committed := kindsState(0, slices.Repeat([]int{api.VmCommitted}, 1024), noRules)
	joined := kindsState(0, slices.Repeat([]int{huge}, 1024), noRules)
	var pages []int
	for page := -20; page < 1060; page++ {
		pages = append(pages, page)
	}
	for _, page := range append(pages, extremes...) {
		want := api.ErrRange
		if page >= 0 && page < 1024 && page%16 == 0 {
			want = api.OK
		}
		for name, x := range map[string]api.VmState{"Join": committed, "Split": joined} {
			s := load(t, x)
			m := modelOf(x)
			a := action{name: name, page: page}
			check(t, a.on(s), of(0, want), name, " of ", page)
			check(t, a.on(m), of(0, want), name, " of ", page, " in the model")
			checkState(t, s, m.state(), name, " of ", page)
		}
	}
}

// modelOf returns a model that has the state x.
func modelOf(x api.VmState) *model {
	m := newModel(noRules)
	m.refusals = x.Refusals
	for _, r := range x.Runs {
		for i := range r.Pages {
			m.is(r.Page+i, r.Kind)
		}
	}
	for _, page := range x.Huge {
		m.huge[page] = true
	}
	for _, d := range x.Data {
		for i, b := range d.Bytes {
			m.Write(int64(64*d.Page+i), b)
		}
	}
	return m
}

// P6.4: one page of the group that is not committed
func TestJoinOfIncompleteGroups(t *testing.T) {
	for _, first := range []int{0, 48, 1008} {
		for at := range 16 {
			for _, kind := range []int{api.VmFree, api.VmReserved, api.VmGuard} {
				kinds := slices.Repeat([]int{api.VmCommitted}, 16)
				kinds[at] = kind
				x := kindsState(first, kinds, always(api.RfJoin, api.RfSplit))
				s := load(t, x)
				check(t, s.Join(first), api.ErrDown, "Join of ", first, ": ", at, " is ", kind)
				check(t, s.Split(first), api.ErrDown, "Split of ", first, ": ", at, " is ", kind)
				checkState(t, s, x, "Join of ", first)
			}
		}
	}
}

// P6.4: joining and splitting, twice, beside other groups; bytes stay
func TestJoinAndSplit(t *testing.T) {
	kinds := append(slices.Repeat([]int{huge}, 16), slices.Repeat([]int{api.VmCommitted}, 16)...)
	single := kindsState(16, kinds, noRules)
	single.Data = []api.VmData{{Page: 16, Bytes: [64]byte{1}}, {Page: 32, Bytes: [64]byte{2}}, {Page: 47, Bytes: [64]byte{63: 3}}}
	s := load(t, single)
	check(t, s.Split(32), api.ErrDown, "Split of single pages")
	checkState(t, s, single, "Split of single pages")
	both := single
	both.Huge = []int{16, 32}
	both.Refusals.Calls[api.RfJoin] = 1
	check(t, s.Join(32), api.OK, "Join")
	checkState(t, s, both, "Join")
	check(t, s.Join(32), api.ErrTwice, "Join of a huge page")
	check(t, s.Join(16), api.ErrTwice, "Join of a huge page")
	checkState(t, s, both, "Join of a huge page")
	second := both
	second.Huge = []int{32}
	second.Refusals.Calls[api.RfSplit] = 1
	check(t, s.Split(16), api.OK, "Split")
	checkState(t, s, second, "Split")
	check(t, s.Split(16), api.ErrDown, "Split of single pages")
	checkState(t, s, second, "Split of single pages")
	check(t, s.Join(16), api.OK, "Join again")
	both.Refusals.Calls = second.Refusals.Calls
	both.Refusals.Calls[api.RfJoin] = 2
	checkState(t, s, both, "Join again")
}

// possible is a state in which every call of TestRefusals is possible.
func possible(p api.RfPlan) api.VmState {
	kinds := append(slices.Repeat([]int{huge}, 16), slices.Repeat([]int{api.VmCommitted}, 16)...)
	kinds = append(kinds, 1, 1, 1, 2, 2, 2, 3, 3, 3)
	x := kindsState(0, kinds, p)
	x.Data = []api.VmData{{Page: 3, Bytes: [64]byte{7, 8}}, {Page: 16, Bytes: [64]byte{9}}, {Page: 36, Bytes: [64]byte{10}}}
	return x
}

// possibleCalls are calls that are possible in this state, by their kinds.
var possibleCalls = [api.RfKinds][]action{
	api.RfReserve:  {{name: "Reserve", page: 50, n: 2}},
	api.RfRelease:  {{name: "Release", page: 32, n: 3}},
	api.RfCommit:   {{name: "Commit", page: 32, n: 2}},
	api.RfDecommit: {{name: "Decommit", page: 35, n: 3}},
	api.RfProtect:  {{name: "Protect", page: 33, n: 2}, {name: "Unprotect", page: 38, n: 2}},
	api.RfJoin:     {{name: "Join", page: 16}},
	api.RfSplit:    {{name: "Split", page: 0}},
}

// impossibleCalls are calls that are not possible in this state, and those whose pages are not there, by their kinds.
var impossibleCalls = [api.RfKinds][]action{
	api.RfReserve:  {{name: "Reserve", page: 49, n: 0}, {name: "Reserve", page: 40, n: 2}},
	api.RfRelease:  {{name: "Release", page: 1023, n: 2}, {name: "Release", page: 35, n: 1}},
	api.RfCommit:   {{name: "Commit", page: -1, n: 1}, {name: "Commit", page: 100, n: 1}},
	api.RfDecommit: {{name: "Decommit", page: 1024, n: 1}, {name: "Decommit", page: 15, n: 2}},
	api.RfProtect:  {{name: "Protect", page: 33, n: -1}, {name: "Protect", page: 34, n: 2}, {name: "Unprotect", page: 37, n: 2}},
	api.RfJoin:     {{name: "Join", page: 17}, {name: "Join", page: 32}, {name: "Join", page: 0}},
	api.RfSplit:    {{name: "Split", page: -16}, {name: "Split", page: 16}, {name: "Split", page: 64}},
}

// P6.3, P6.4, P6.7: calls that are possible are counted and may be refused, and then change nothing else; other ones are neither
func TestRefusals(t *testing.T) {
	for kind := range api.RfKinds {
		x := possible(always(kind))
		s := load(t, x)
		for _, a := range impossibleCalls[kind] {
			got := a.on(s)
			check(t, got, a.on(modelOf(x)), a)
			check(t, got.e == api.OK || got.e == vmpage.ErrRefused, false, a, " is possible")
			checkState(t, s, x, a)
		}
		for _, a := range possibleCalls[kind] {
			x.Refusals.Calls[kind]++
			x.Refusals.Hits[kind]++
			check(t, a.on(s), of(0, vmpage.ErrRefused), a)
			checkState(t, s, x, a)
		}
		for other, l := range possibleCalls {
			for _, a := range l {
				m := modelOf(possible(always(kind)))
				s := load(t, m.state())
				want := api.OK
				if other == kind {
					want = vmpage.ErrRefused
				}
				check(t, a.on(s), of(0, want), a, " while ", kind, " is refused")
				a.on(m)
				checkState(t, s, m.state(), a, " while ", kind, " is refused")
			}
		}
	}
}

// P6.3: calls to protect and to unprotect are of one kind
func TestProtectIsOneKind(t *testing.T) {
	s := system(t, api.RfPlan{Rules: []api.RfRule{{Kind: api.RfProtect, First: 2, Every: 2}}})
	s.Reserve(0, 2)
	check(t, s.Protect(0, 2, true), api.OK, "the first call")
	check(t, s.Protect(0, 2, false), vmpage.ErrRefused, "the second call")
	check(t, s.Protect(0, 2, false), api.OK, "the third call")
	check(t, s.Protect(0, 2, true), vmpage.ErrRefused, "the fourth call")
}

// Definitions: after MaxRfCalls calls of a kind, calls of this kind are neither counted nor refused
func TestLastCalls(t *testing.T) {
	for kind := range api.RfKinds {
		x := possible(always(0, 1, 2, 3, 4, 5, 6))
		x.Refusals.Calls[kind], x.Refusals.Hits[kind] = 999999, 999999
		s := load(t, x)
		a := possibleCalls[kind][0]
		check(t, a.on(s), of(0, vmpage.ErrRefused), a, ": the last call that is counted")
		x.Refusals.Calls[kind], x.Refusals.Hits[kind] = 1000000, 1000000
		checkState(t, s, x, a, ": the last call that is counted")
		for other, l := range possibleCalls {
			for _, b := range l {
				s, m := load(t, x), modelOf(x)
				want := vmpage.ErrRefused
				if other == kind {
					want = api.OK
				}
				check(t, b.on(s), of(0, want), b, " after all calls of ", kind)
				b.on(m)
				checkState(t, s, m.state(), b, " after all calls of ", kind)
				check(t, s.Save().Refusals.Calls[kind], 1000000, "the calls of ", kind)
			}
		}
		for _, a := range impossibleCalls[kind] {
			check(t, a.on(load(t, x)), a.on(modelOf(x)), a, " after all calls of ", kind)
		}
		check(t, s.Plan(always(kind)), api.OK, "Plan")
		check(t, action{name: "Reserve", page: 60, n: 1}.on(s).e == vmpage.ErrRefused, kind == api.RfReserve, "Reserve after Plan")
	}
}
