package vmpage_test

import (
	"math/rand"
	"testing"

	"polder/api"
	"polder/refusals"
	"polder/vmpage"
)

// The examples of the chapter
func TestExamples(t *testing.T) {
	s := system(t, noRules)
	check(t, s.Reserve(0, 4), api.OK, "Reserve(0, 4)")
	check(t, s.Commit(1, 2), api.OK, "Commit(1, 2)")
	check(t, s.Commit(0, 2), api.ErrDown, "Commit(0, 2)")
	check(t, s.Write(64, 7), api.OK, "Write(64, 7)")
	check(t, of(s.Read(64)), of(byte(7), api.OK), "Read(64)")
	check(t, of(s.Read(65)), of(byte(0), api.OK), "Read(65)")
	check(t, of(s.Read(63)), of(byte(0), vmpage.ErrFault), "Read(63)")
	check(t, s.Protect(0, 1, true), api.OK, "Protect(0, 1, true)")
	check(t, s.Release(0, 4), api.ErrDown, "Release(0, 4)")
	check(t, s.Decommit(1, 2), api.OK, "Decommit(1, 2)")
	check(t, s.Commit(1, 1), api.OK, "Commit(1, 1)")
	check(t, of(s.Read(64)), of(byte(0), api.OK), "Read(64)")
	check(t, of(s.Counts()), of(api.VmCounts{Free: 1020, Reserved: 2, Committed: 1, Guards: 1}, api.OK), "Counts")
}

// The numbers of the errors
func TestErrors(t *testing.T) {
	check(t, vmpage.ErrRefused, api.Errno(60), "ErrRefused")
	check(t, vmpage.ErrFault, api.Errno(61), "ErrFault")
}

// wrongPlans are plans of which Start has an error.
func wrongPlans() []api.RfPlan {
	long := make([]api.RfRule, 51)
	for i := range long {
		long[i] = api.RfRule{First: 1, Times: 1}
	}
	return []api.RfPlan{
		{Rules: long},
		{Rules: []api.RfRule{{First: 1, Times: 1}, {Kind: 7, First: 1, Times: 1}}},
		{Rules: []api.RfRule{{First: 0, Times: 1}}},
		{Rules: []api.RfRule{{First: 1}}},
	}
}

// P6.1: the errors of Start, and the system whose pages are free
func TestNew(t *testing.T) {
	for i, want := range []api.Errno{api.ErrLong, api.ErrArg, api.ErrRange, api.ErrForm} {
		p := wrongPlans()[i]
		_, start := refusals.Start(p)
		s, e := vmpage.New(p)
		check(t, start, want, "Start of ", p)
		check(t, e, want, "New of ", p)
		check(t, s == nil, true, "New of ", p)
	}
	r := rand.New(rand.NewSource(1))
	for range 50 {
		p := randomPlan(r)
		s := system(t, p)
		checkState(t, s, api.VmState{Refusals: api.RfState{Plan: p}}, "New of ", p)
		check(t, of(s.Counts()), of(api.VmCounts{Free: 1024}, api.OK), "Counts")
		for page := range 1024 {
			check(t, kindOf(s, page), answer{[2]any{api.VmFree, false}, api.OK}, "Kind of ", page)
		}
	}
}

// P6.1: other refusals, and all else as it was
func TestPlan(t *testing.T) {
	r := rand.New(rand.NewSource(2))
	for range 100 {
		m := randomModel(r, 64)
		x := m.state()
		s := load(t, x)
		for _, p := range wrongPlans() {
			_, start := refusals.Start(p)
			check(t, s.Plan(p), start, "Plan of ", p)
			checkState(t, s, x, "Plan of ", p)
		}
		x.Refusals = api.RfState{Plan: randomPlan(r)}
		check(t, s.Plan(x.Refusals.Plan), api.OK, "Plan")
		checkState(t, s, x, "Plan")
	}
}

// P6.1: calls are counted from 1 again, and the rules before are forgotten
func TestPlanCountsAgain(t *testing.T) {
	second := api.RfPlan{Rules: []api.RfRule{{Kind: api.RfReserve, First: 2, Times: 1}}}
	s := system(t, second)
	for page, want := range []api.Errno{api.OK, vmpage.ErrRefused, api.OK} {
		check(t, s.Reserve(page, 1), want, "Reserve of ", page)
	}
	check(t, s.Plan(second), api.OK, "Plan")
	for page, want := range []api.Errno{api.OK, vmpage.ErrRefused, api.OK} {
		check(t, s.Reserve(10+page, 1), want, "Reserve of ", 10+page)
	}
	check(t, s.Plan(noRules), api.OK, "Plan")
	for page := range 3 {
		check(t, s.Reserve(20+page, 1), api.OK, "Reserve of ", 20+page)
	}
}

// P6.6: pages that there are, and others
func TestKind(t *testing.T) {
	s := system(t, noRules)
	s.Reserve(0, 1024)
	s.Commit(16, 32)
	s.Join(32)
	s.Protect(1023, 1, true)
	s.Release(0, 1)
	for page, want := range map[int][2]any{
		0: {api.VmFree, false}, 1: {api.VmReserved, false}, 15: {api.VmReserved, false}, 16: {api.VmCommitted, false}, 31: {api.VmCommitted, false},
		32: {api.VmCommitted, true}, 47: {api.VmCommitted, true}, 48: {api.VmReserved, false}, 1022: {api.VmReserved, false}, 1023: {api.VmGuard, false},
	} {
		check(t, kindOf(s, page), answer{want, api.OK}, "Kind of ", page)
	}
	for _, page := range append([]int{1024, 1025}, extremes...) {
		check(t, kindOf(s, page), answer{[2]any{0, false}, api.ErrRange}, "Kind of ", page)
	}
}

// P6.6: how many pages there are of each kind
func TestCounts(t *testing.T) {
	s := system(t, noRules)
	s.Reserve(0, 1000)
	s.Commit(0, 160)
	s.Protect(500, 3, true)
	for _, page := range []int{0, 16, 144} {
		check(t, s.Join(page), api.OK, "Join")
	}
	check(t, of(s.Counts()), of(api.VmCounts{Free: 24, Reserved: 837, Committed: 160, Guards: 3, Huge: 3}, api.OK), "Counts")
	for page := 0; page < 1024; page += 16 {
		s.Split(page)
	}
	check(t, of(s.Counts()), of(api.VmCounts{Free: 24, Reserved: 837, Committed: 160, Guards: 3}, api.OK), "Counts")
	s.Protect(500, 3, false)
	s.Reserve(1000, 24)
	s.Commit(160, 864)
	for page := 0; page < 1024; page += 16 {
		check(t, s.Join(page), api.OK, "Join")
	}
	check(t, of(s.Counts()), of(api.VmCounts{Committed: 1024, Huge: 64}, api.OK), "Counts")
}
