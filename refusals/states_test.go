package refusals_test

import (
	"math/rand"
	"testing"

	"polder/api"
	"polder/refusals"
)

// P5.4: the state before the first call
func TestStart(t *testing.T) {
	r := rand.New(rand.NewSource(20))
	for range 100 {
		p := anyPlan(r, 50)
		s, e := refusals.Start(p)
		if e != api.OK || !equalStates(s, api.RfState{Plan: p}) || refusals.CheckState(s) != api.OK {
			t.Fatalf("Start(%v): %v, %d", p, s, e)
		}
	}
}

// P5.4: numbers of calls and hits that are right, and that are not
func TestCheckState(t *testing.T) {
	r := rand.New(rand.NewSource(21))
	for range 40 {
		p := anyPlan(r, 20)
		var calls [api.RfKinds]int
		for kind := range calls {
			calls[kind] = r.Intn(60000)
		}
		s := stateOf(p, calls)
		check(t, refusals.CheckState(s), api.OK, "CheckState of ", s)
		for kind := range api.RfKinds {
			for _, wrong := range append([]int{s.Hits[kind] - 1, s.Hits[kind] + 1}, extremes...) {
				x := s
				x.Hits[kind] = wrong
				check(t, refusals.CheckState(x), api.ErrForm, "CheckState of ", x)
			}
			for _, wrong := range append([]int{1000001}, extremes...) {
				for _, hits := range []int{s.Hits[kind], 0, -1, wrong} {
					x := s
					x.Calls[kind], x.Hits[kind] = wrong, hits
					check(t, refusals.CheckState(x), api.ErrForm, "CheckState of ", x)
				}
			}
		}
	}
}

// P5.4: as many calls as are counted
func TestCheckStateAtTheEnd(t *testing.T) {
	hits := [api.RfKinds]int{api.RfCommit: 500001, api.RfReserve: 2}
	p := both(example(), commits([3]int{1, 0, 1}))
	for _, x := range []struct {
		calls, lost int
		e           api.Errno
	}{{999999, 0, api.OK}, {1000000, 0, api.OK}, {1000001, 0, api.ErrForm}, {1000000, 1, api.ErrForm}, {1000001, -1, api.ErrForm}} {
		s := api.RfState{Plan: p, Hits: hits}
		for kind := range s.Calls {
			s.Calls[kind] = x.calls
		}
		s.Hits[api.RfCommit] -= x.lost
		check(t, refusals.CheckState(s), x.e, "CheckState of ", s)
	}
}

// P5.4, R2: the errors of CheckState, then the kinds, then the calls
func TestErrorsOfNext(t *testing.T) {
	p := example()
	full := stateOf(p, [api.RfKinds]int{api.RfCommit: 1000000, api.RfJoin: 1000000, api.RfSplit: 999999})
	check(t, refusals.CheckState(full), api.OK, "CheckState")
	wrong := full
	wrong.Hits[api.RfReserve]++
	for _, kind := range append([]int{0, 1, 2, 3, 4, 5, 6, 7, 60}, extremes...) {
		want := api.OK
		switch {
		case kind < 0 || kind > 6:
			want = api.ErrArg
		case kind == api.RfCommit || kind == api.RfJoin:
			want = api.ErrLong
		}
		s, is, e := refusals.Next(full, kind)
		if e != want || e != api.OK && (is || !zero(s)) || e == api.OK && s.Calls[kind] != full.Calls[kind]+1 {
			t.Errorf("Next of a full state, %d: %v, %v, %d, want %d", kind, s, is, e, want)
		}
		if s, is, e := refusals.Next(wrong, kind); e != api.ErrForm || is || !zero(s) {
			t.Errorf("Next of a wrong state, %d: %v, %v, %d", kind, s, is, e)
		}
	}
	check(t, of(refusals.Rest(wrong)), of(api.RfPlan{}, api.ErrForm), "Rest of a wrong state")
}

// P5.7, P5.4: calls one after the other
func TestNext(t *testing.T) {
	r := rand.New(rand.NewSource(22))
	for i := range 60 {
		p := randomPlan(r, 12, api.RfKinds)
		kinds := 1 + i%api.RfKinds
		s, e := refusals.Start(p)
		var calls, hits [api.RfKinds]int
		for range 200 {
			kind := r.Intn(kinds)
			var is bool
			s, is, e = refusals.Next(s, kind)
			calls[kind]++
			want := planRefuses(p, kind, calls[kind])
			if want {
				hits[kind]++
			}
			check(t, of(is, e), of(want, api.OK), "Next of ", short(p), ", ", kind, ": ", calls)
			check(t, of(refusals.Refused(p, kind, calls[kind])), of(want, api.OK), "Refused of ", short(p), ", ", kind, ": ", calls)
			if !equalStates(s, api.RfState{Plan: p, Calls: calls, Hits: hits}) {
				t.Fatalf("the state of %s is %v, want %v and %v", short(p), s, calls, hits)
			}
		}
		check(t, refusals.CheckState(s), api.OK, "CheckState")
	}
}

// P5.4: the last calls that are counted
func TestLastCalls(t *testing.T) {
	for _, p := range []api.RfPlan{commits([3]int{2, 2, 0}), lateGap(), commits([3]int{10000, 12, 0}, [3]int{1, 7, 0})} {
		s := stateOf(p, [api.RfKinds]int{api.RfCommit: 999990})
		for n := 999991; n <= 1000000; n++ {
			next, is, e := refusals.Next(s, api.RfCommit)
			check(t, of(is, e), of(planRefuses(p, api.RfCommit, n), api.OK), "the call ", n)
			if next.Calls[api.RfCommit] != n || next.Hits[api.RfCommit]-s.Hits[api.RfCommit] > 1 || (next.Hits != s.Hits) != is {
				t.Fatalf("Next of %v: %v", s, next)
			}
			s = next
		}
		_, is, e := refusals.Next(s, api.RfCommit)
		check(t, of(is, e), of(false, api.ErrLong), "one call too many")
	}
}

// restOf returns the rule that refuses the calls of x after made ones, found one by one, and whether there are any.
func restOf(x api.RfRule, made int) (api.RfRule, bool) {
	before, first := 0, 0
	for n := 1; first == 0; n++ {
		if n > made+30000 {
			return api.RfRule{}, false
		}
		if ruleRefuses(x, n) && n <= made {
			before++
		} else if ruleRefuses(x, n) {
			first = n
		}
	}
	x.First = first - made
	if x.Times > 0 {
		x.Times -= before
	}
	return x, true
}

// checkRest compares Rest with the rules that are left, and with the calls that are to come.
func checkRest(t *testing.T, s api.RfState) {
	t.Helper()
	var want api.RfPlan
	for _, x := range s.Plan.Rules {
		if rest, ok := restOf(x, s.Calls[x.Kind]); ok {
			want.Rules = append(want.Rules, rest)
		}
	}
	q, e := refusals.Rest(s)
	check(t, of(q, e), of(want, api.OK), "Rest of ", s)
	check(t, of(refusals.Check(q)), of(0, api.OK), "Check of what Rest returns of ", s)
	for kind, made := range s.Calls {
		for n := 1; n <= 60; n++ {
			is, e := refusals.Refused(q, kind, n)
			check(t, of(is, e), of(planRefuses(s.Plan, kind, made+n), api.OK), "after ", s, ": ", kind, ", ", n)
		}
	}
}

// P5.5, P5.9: one rule, between all of its calls
func TestRestOfRules(t *testing.T) {
	for _, x := range []api.RfRule{
		{Kind: 2, First: 1, Times: 1}, {Kind: 2, First: 4, Times: 1}, {Kind: 2, First: 4, Every: 3}, {Kind: 2, First: 1, Every: 1},
		{Kind: 2, First: 2, Every: 4, Times: 3}, {Kind: 2, First: 3, Every: 1, Times: 1}, {Kind: 2, First: 3, Every: 12, Times: 2}, {Kind: 2, First: 1, Every: 1, Times: 5},
	} {
		for made := range 30 {
			checkRest(t, stateOf(plan(x), [api.RfKinds]int{api.RfReserve: 30 - made, api.RfCommit: made}))
		}
	}
	for _, made := range []int{9998, 9999, 10000, 10001, 21975, 21976, 21977, 21987, 21988, 21989, 1000000} {
		checkRest(t, stateOf(commits([3]int{10000, 12, 1000}, [3]int{10000, 12, 0}, [3]int{9999, 0, 1}, [3]int{10000, 0, 1}), [api.RfKinds]int{api.RfCommit: made}))
	}
}

// P5.5, P5.9: random states
func TestRest(t *testing.T) {
	r := rand.New(rand.NewSource(23))
	for i := range 300 {
		p := randomPlan(r, 8, api.RfKinds)
		most := 40
		if i%10 == 0 {
			p, most = anyPlan(r, 8), 30000
		}
		var calls [api.RfKinds]int
		for kind := range calls {
			calls[kind] = r.Intn(most)
		}
		checkRest(t, stateOf(p, calls))
	}
}

// P5.5, P5.7: Rest of a state, again and again, is Rest of all the calls
func TestRestOfRest(t *testing.T) {
	r := rand.New(rand.NewSource(24))
	for range 50 {
		p := randomPlan(r, 8, 2)
		all, _ := refusals.Start(p)
		part := all
		for range 40 {
			kind := r.Intn(2)
			var is, isPart bool
			all, is, _ = refusals.Next(all, kind)
			part, isPart, _ = refusals.Next(part, kind)
			check(t, isPart, is, "Next after Rest of ", short(p))
			rest, e := refusals.Rest(part)
			check(t, of(rest, e), of(refusals.Rest(all)), "Rest of Rest of ", short(p))
			if r.Intn(3) == 0 {
				part, _ = refusals.Start(rest)
			}
		}
	}
}
