package vmpage_test

import (
	"math/rand"
	"testing"

	"polder/api"
	"polder/vmpage"
)

// P6.3 to P6.8: long sequences of calls, compared with a model
func TestSequences(t *testing.T) {
	r := rand.New(rand.NewSource(20))
	for _, pages := range []int{16, 32, 64, 1024} {
		for range 15 {
			m := randomModel(r, pages)
			s := load(t, m.state())
			for range 300 {
				a := randomAction(r, pages)
				check(t, a.on(s), a.on(m), a)
				if r.Intn(10) == 0 {
					checkState(t, s, m.state(), a)
				}
			}
		}
	}
}

// P6.7: an error changes nothing, but for what the refusals count
func TestErrorsChangeNothing(t *testing.T) {
	r := rand.New(rand.NewSource(21))
	seen := map[api.Errno]int{}
	for range 30 {
		s := load(t, randomModel(r, 32).state())
		for range 200 {
			a := randomAction(r, 32)
			before := s.Save()
			e := a.on(s).e
			after := s.Save()
			seen[e]++
			if e == vmpage.ErrRefused {
				kind := kindOfCall(a)
				before.Refusals.Calls[kind]++
				before.Refusals.Hits[kind]++
			}
			if e != api.OK && !equalStates(after, before) {
				t.Fatalf("%v: %d, and the state is %v, want %v", a, e, after, before)
			}
		}
	}
	for _, e := range []api.Errno{api.OK, api.ErrRange, api.ErrDown, api.ErrTwice, vmpage.ErrRefused, vmpage.ErrFault} {
		if seen[e] < 10 {
			t.Errorf("the error %d was there %d times only", e, seen[e])
		}
	}
}

// kindOfCall returns the kind of a call that may be refused.
func kindOfCall(a action) int {
	for _, c := range changes {
		if c.name == a.name {
			return c.call
		}
	}
	return map[string]int{"Join": api.RfJoin, "Split": api.RfSplit}[a.name]
}

// P6.9: counts are those of Kind, page by page; pages of huge pages are committed
func TestCountsAreThoseOfPages(t *testing.T) {
	r := rand.New(rand.NewSource(22))
	for range 60 {
		s := load(t, randomModel(r, 16*(1+r.Intn(64))).state())
		for range 10 {
			randomAction(r, 64).on(s)
		}
		var kinds [4]int
		joined := 0
		for page := range 1024 {
			kind, isHuge, e := s.Kind(page)
			check(t, e, api.OK, "Kind of ", page)
			check(t, isHuge && kind != api.VmCommitted, false, "a huge page that is not committed: ", page)
			kinds[kind]++
			if isHuge {
				joined++
			}
		}
		n, e := s.Counts()
		check(t, answer{n, e}, of(api.VmCounts{Free: kinds[0], Reserved: kinds[1], Committed: kinds[2], Guards: kinds[3], Huge: joined / 16}, api.OK), "Counts")
		check(t, n.Free+n.Reserved+n.Committed+n.Guards, 1024, "all kinds together")
	}
}

// P6.10: giving back all pages leads to the state of New, but for what the refusals count
func TestAllIsGivenBack(t *testing.T) {
	r := rand.New(rand.NewSource(23))
	for range 60 {
		m := randomModel(r, 16*(1+r.Intn(64)))
		s := load(t, m.state())
		check(t, s.Plan(noRules), api.OK, "Plan")
		x := s.Save()
		for _, page := range x.Huge {
			check(t, s.Split(page), api.OK, "Split of ", page)
		}
		for _, run := range x.Runs {
			switch run.Kind {
			case api.VmCommitted:
				check(t, s.Decommit(run.Page, run.Pages), api.OK, "Decommit of ", run)
			case api.VmGuard:
				check(t, s.Protect(run.Page, run.Pages, false), api.OK, "Protect of ", run)
			}
		}
		for _, run := range s.Save().Runs {
			check(t, run.Kind, api.VmReserved, "the kind of a run")
			check(t, s.Release(run.Page, run.Pages), api.OK, "Release of ", run)
		}
		want := system(t, noRules).Save()
		want.Refusals.Calls = s.Save().Refusals.Calls
		checkState(t, s, want, "after all was given back")
		check(t, s.Plan(noRules), api.OK, "Plan")
		checkState(t, s, system(t, noRules).Save(), "after all was given back, and Plan")
	}
}
