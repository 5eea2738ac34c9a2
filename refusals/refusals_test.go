package refusals_test

import (
	"fmt"
	"math/rand"
	"slices"
	"testing"

	"polder/api"
	"polder/refusals"
)

// errorOf returns the error of a rule.
func errorOf(r api.RfRule) api.Errno {
	switch {
	case r.Kind < 0 || r.Kind > 6:
		return api.ErrArg
	case r.First < 1 || r.First > 10000 || r.Every < 0 || r.Every > 12 || r.Times < 0 || r.Times > 1000:
		return api.ErrRange
	case r.Every == 0 && r.Times != 1:
		return api.ErrForm
	}
	return api.OK
}

// P5.1: all numbers at the ends of their ranges, and beyond
func TestCheckRules(t *testing.T) {
	good := api.RfRule{First: 1, Times: 1}
	for _, kind := range append([]int{0, 1, 5, 6, 7, 60}, extremes...) {
		for _, first := range append([]int{0, 1, 2, 9999, 10000, 10001}, extremes...) {
			for _, every := range append([]int{0, 1, 2, 11, 12, 13}, extremes...) {
				for _, times := range append([]int{0, 1, 2, 999, 1000, 1001}, extremes...) {
					r := api.RfRule{Kind: kind, First: first, Every: every, Times: times}
					rule, e := refusals.Check(plan(good, r))
					want := errorOf(r)
					if e != want || rule != 0 && want == api.OK || rule != 1 && want != api.OK {
						t.Fatalf("Check with %v: %d, %d, want %d", r, rule, e, want)
					}
				}
			}
		}
	}
}

// P5.1: which error is the first
func TestCheckPlans(t *testing.T) {
	for _, x := range wrongPlans() {
		if rule, e := refusals.Check(x.p); rule != x.rule || e != x.e {
			t.Errorf("Check(%v): %d, %d, want %d, %d", x.p, rule, e, x.rule, x.e)
		}
	}
	good := []api.RfRule{{Kind: 6, First: 10000, Every: 12, Times: 1000}}
	for n := range 51 {
		if rule, e := refusals.Check(api.RfPlan{Rules: slices.Repeat(good, n)}); rule != 0 || e != api.OK {
			t.Errorf("Check of %d rules: %d, %d", n, rule, e)
		}
		wrong := slices.Repeat(good, 50)
		for i := n; i < 50; i++ {
			wrong[i].Times = []int{-1, 1001}[i%2]
		}
		want := of(n, api.ErrRange)
		if n == 50 {
			want = of(0, api.OK)
		}
		check(t, of(refusals.Check(api.RfPlan{Rules: wrong})), want, "wrong from ", n)
	}
}

// planCalls returns what all functions with a plan return of p.
func planCalls(p api.RfPlan, kind, n int) map[string]answer {
	s := api.RfState{Plan: p, Calls: [api.RfKinds]int{n, n, n}}
	next, is, e := refusals.Next(s, kind)
	return map[string]answer{
		"Refused":    of(refusals.Refused(p, kind, n)),
		"Hits":       of(refusals.Hits(p, kind, n)),
		"After":      of(refusals.After(p, kind, n)),
		"Same":       of(refusals.Same(p, example())),
		"Same, too":  of(refusals.Same(example(), p)),
		"Reduce":     of(refusals.Reduce(p)),
		"Start":      of(refusals.Start(p)),
		"CheckState": of(0, refusals.CheckState(s)),
		"Next":       {next, e},
		"Next is":    {is, e},
		"Rest":       of(refusals.Rest(s)),
		"Print":      of(refusals.Print(p)),
	}
}

// zero reports whether the value of an answer is zero, or empty.
func zero(v any) bool {
	switch x := v.(type) {
	case api.RfPlan:
		return len(x.Rules) == 0
	case api.RfState:
		return equalStates(x, api.RfState{})
	}
	return v == false || v == 0 || v == ""
}

// P5.1, P5.2, P5.4, R2: the error of Check is the first one, whatever else is wrong, and nothing comes with it
func TestErrorOfCheckIsFirst(t *testing.T) {
	for _, x := range wrongPlans() {
		for _, kind := range append([]int{0, 2, 7}, extremes...) {
			for _, n := range append([]int{0, 1, 1000001}, extremes...) {
				for name, got := range planCalls(x.p, kind, n) {
					if got.e != x.e || !zero(got.value) {
						t.Fatalf("%s(%.100s, %d, %d): %v, want %d", name, fmt.Sprint(x.p), kind, n, got, x.e)
					}
				}
			}
		}
	}
}

// P5.2: kinds and numbers that there are not
func TestErrorsOfCalls(t *testing.T) {
	for _, p := range []api.RfPlan{{}, example(), lateGap()} {
		for _, kind := range append([]int{0, 2, 6, 7}, extremes...) {
			for _, n := range append([]int{0, 1, 1000000, 1000001}, extremes...) {
				want := api.OK
				switch {
				case kind < 0 || kind > 6:
					want = api.ErrArg
				case n < 0 || n > 1000000:
					want = api.ErrRange
				}
				hits, e := refusals.Hits(p, kind, n)
				if e != want || e != api.OK && hits != 0 {
					t.Fatalf("Hits(%v, %d, %d): %d, %d, want %d", p, kind, n, hits, e, want)
				}
				next, e := refusals.After(p, kind, n)
				if e != want && (want != api.OK || e != api.ErrNone) || e != api.OK && next != 0 {
					t.Fatalf("After(%v, %d, %d): %d, %d, want %d", p, kind, n, next, e, want)
				}
				if want == api.OK && n == 0 {
					want = api.ErrRange
				}
				is, e := refusals.Refused(p, kind, n)
				if e != want || e != api.OK && is {
					t.Fatalf("Refused(%v, %d, %d): %v, %d, want %d", p, kind, n, is, e, want)
				}
			}
		}
	}
}

// checkCalls compares what is known of the calls of a kind around n with hits, and with next, the first refused call after n (0: none).
func checkCalls(t *testing.T, p api.RfPlan, kind, n int, hits, next int) {
	t.Helper()
	check(t, of(refusals.Hits(p, kind, n)), of(hits, api.OK), "Hits of ", short(p), ": ", kind, ", ", n)
	want := of(next, api.OK)
	if next == 0 {
		want = of(0, api.ErrNone)
	}
	check(t, of(refusals.After(p, kind, n)), want, "After of ", short(p), ": ", kind, ", ", n)
	if n > 0 {
		check(t, of(refusals.Refused(p, kind, n)), of(planRefuses(p, kind, n), api.OK), "Refused of ", short(p), ": ", kind, ", ", n)
	}
}

// P5.2: the first calls of small plans
func TestFirstCalls(t *testing.T) {
	r := rand.New(rand.NewSource(1))
	for range 300 {
		p := randomPlan(r, 6, 3)
		for kind := range api.RfKinds {
			hits := hitsUpTo(p, kind, 150)
			for n := range 80 {
				next := n + 1
				for next < 150 && !planRefuses(p, kind, next) {
					next++
				}
				if next == 150 { // small plans have no gaps of this size
					next = 0
				}
				checkCalls(t, p, kind, n, hits[n], next)
			}
		}
	}
}

// largePlans are plans whose calls are far from the first ones.
func largePlans() []api.RfPlan {
	r := rand.New(rand.NewSource(2))
	plans := []api.RfPlan{
		lateGap(), allBut(27720), allBut(1), commits([3]int{10000, 12, 1000}), commits([3]int{10000, 12, 0}), commits([3]int{1, 1, 0}),
		commits([3]int{1, 11, 0}, [3]int{1, 12, 0}, [3]int{9999, 7, 1000}), commits([3]int{1, 1, 1000}, [3]int{10000, 0, 1}), {},
	}
	for range 4 {
		p := anyPlan(r, 10)
		for i := range p.Rules {
			p.Rules[i].Kind = api.RfCommit
		}
		plans = append(plans, p)
	}
	return plans
}

// P5.2: calls up to the last one, mainly where plans begin to repeat themselves
func TestLateCalls(t *testing.T) {
	r := rand.New(rand.NewSource(3))
	for _, p := range largePlans() {
		hits := hitsUpTo(p, api.RfCommit, 1000000)
		after := make([]int, 1000001)
		for n := 999999; n >= 0; n-- {
			after[n] = after[n+1]
			if hits[n+1] > hits[n] {
				after[n] = n + 1
			}
		}
		var places []int
		for _, at := range []int{3, 1003, 10000, 21988, 27720, 49708, 77428, 99148, 999997} {
			for n := at - 3; n <= at+3; n++ {
				places = append(places, n)
			}
		}
		for range 100 {
			places = append(places, r.Intn(100000), r.Intn(1000001))
		}
		for _, n := range places {
			checkCalls(t, p, api.RfCommit, n, hits[n], after[n])
			checkCalls(t, p, api.RfJoin, n, 0, 0)
		}
	}
}

// P5.7: starting with 0, After enumerates the calls that are refused
func TestAfterEnumerates(t *testing.T) {
	r := rand.New(rand.NewSource(4))
	for _, p := range append(largePlans(), example(), anyPlan(r, 50), anyPlan(r, 50)) {
		for _, kind := range []int{api.RfReserve, api.RfCommit} {
			at := 0
			for n := 1; n <= 60000; n++ {
				if !planRefuses(p, kind, n) {
					continue
				}
				next, e := refusals.After(p, kind, at)
				if next != n || e != api.OK {
					t.Fatalf("After of %s: %d, %d: %d, %d, want %d", short(p), kind, at, next, e, n)
				}
				at = n
			}
			endless := slices.ContainsFunc(p.Rules, func(r api.RfRule) bool { return r.Kind == kind && r.Times == 0 })
			if _, e := refusals.After(p, kind, at); (e == api.OK) != endless || (e == api.ErrNone) == endless {
				t.Errorf("After of %s: %d, %d: %d", short(p), kind, at, e)
			}
		}
	}
}

// The examples of the document
func TestExamples(t *testing.T) {
	p := example()
	for i, want := range []bool{false, false, true, true, true, false} {
		check(t, of(refusals.Refused(p, api.RfCommit, i+1)), of(want, api.OK), "Refused ", i+1)
	}
	check(t, of(refusals.Hits(p, api.RfCommit, 6)), of(3, api.OK), "Hits")
	check(t, of(refusals.Hits(p, api.RfReserve, 10)), of(2, api.OK), "Hits")
	check(t, of(refusals.After(p, api.RfCommit, 5)), of(7, api.OK), "After")
	check(t, of(refusals.After(p, api.RfReserve, 4)), of(0, api.ErrNone), "After")
	check(t, of(refusals.Print(p)), of("commit 3 every 2\ncommit 4\nreserve 1 every 3 times 2\n", api.OK), "Print")
	check(t, of(refusals.Reduce(both(p, commits([3]int{5, 4, 0})))), of(p, api.OK), "Reduce")
	check(t, of(refusals.Same(commits([3]int{2, 2, 0}), commits([3]int{2, 4, 0}, [3]int{4, 4, 0}))), of(true, api.OK), "Same")
	check(t, of(refusals.Check(plan(api.RfRule{First: 1}))), of(0, api.ErrForm), "Check")
	check(t, of(refusals.Check(plan(api.RfRule{Times: 1}))), of(0, api.ErrRange), "Check")
	s, e := refusals.Start(p)
	check(t, of(s, e), of(api.RfState{Plan: p}, api.OK), "Start")
	for i, want := range []bool{false, false, true, true, true} {
		var is bool
		s, is, e = refusals.Next(s, api.RfCommit)
		check(t, of(is, e), of(want, api.OK), "Next ", i)
	}
	s, is, e := refusals.Next(s, api.RfReserve)
	check(t, of(is, e), of(true, api.OK), "Next")
	check(t, of(refusals.Rest(s)), of(plan(api.RfRule{Kind: api.RfCommit, First: 2, Every: 2}, api.RfRule{Kind: api.RfReserve, First: 3, Every: 3, Times: 1}), api.OK), "Rest")
}
