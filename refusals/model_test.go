package refusals_test

import (
	"fmt"
	"math"
	"math/rand"
	"slices"
	"strings"
	"testing"

	"polder/api"
	"polder/refusals"
)

// far is a call that is greater than all calls after which plans repeat themselves twice.
const far = 80000

// extremes are numbers that overflow easily.
var extremes = []int{math.MinInt, math.MinInt + 1, -1, math.MaxInt - 1, math.MaxInt}

// ruleRefuses reports whether a rule refuses the n-th call of its kind.
func ruleRefuses(r api.RfRule, n int) bool {
	if r.Every == 0 {
		return n == r.First
	}
	past := n - r.First
	return past >= 0 && past%r.Every == 0 && (r.Times == 0 || past/r.Every < r.Times)
}

// planRefuses reports whether a plan refuses the n-th call of a kind.
func planRefuses(p api.RfPlan, kind, n int) bool {
	return slices.ContainsFunc(p.Rules, func(r api.RfRule) bool { return r.Kind == kind && ruleRefuses(r, n) })
}

// hitsUpTo returns, for each n up to most, how many of the first n calls of a kind a plan refuses.
func hitsUpTo(p api.RfPlan, kind, most int) []int {
	hits := make([]int, most+1)
	for n := 1; n <= most; n++ {
		hits[n] = hits[n-1]
		if planRefuses(p, kind, n) {
			hits[n]++
		}
	}
	return hits
}

// plan returns the plan of these rules.
func plan(rules ...api.RfRule) api.RfPlan {
	return api.RfPlan{Rules: rules}
}

// commits returns the plan with these First, Every and Times for commits.
func commits(numbers ...[3]int) api.RfPlan {
	var p api.RfPlan
	for _, n := range numbers {
		p.Rules = append(p.Rules, api.RfRule{Kind: api.RfCommit, First: n[0], Every: n[1], Times: n[2]})
	}
	return p
}

// both returns the plan of the rules of a, then those of b.
func both(a, b api.RfPlan) api.RfPlan {
	return api.RfPlan{Rules: slices.Concat(a.Rules, b.Rules)}
}

// example is the plan P of the document's examples.
func example() api.RfPlan {
	return plan(api.RfRule{Kind: api.RfCommit, First: 3, Every: 2}, api.RfRule{Kind: api.RfCommit, First: 4, Times: 1}, api.RfRule{Kind: api.RfReserve, First: 1, Every: 3, Times: 2})
}

// allBut is a plan that refuses all commits but those that differ from the call n by a multiple of 27720: it has the other residues of 5, 7, 8, 9 and 11.
func allBut(n int) api.RfPlan {
	var p api.RfPlan
	for _, every := range []int{5, 7, 8, 9, 11} {
		for first := 1; first <= every; first++ {
			if (n-first)%every != 0 {
				p = both(p, commits([3]int{first, every, 0}))
			}
		}
	}
	return p
}

// lateGap is a plan that refuses all commits up to 49707, but not 49708: a rule that ends as late as possible refuses the call 21988.
func lateGap() api.RfPlan {
	return both(allBut(21988), commits([3]int{10000, 12, 1000}))
}

// randomRule returns a valid rule of one of the first kinds.
func randomRule(r *rand.Rand, kinds, first, every, times int) api.RfRule {
	x := api.RfRule{Kind: r.Intn(kinds), First: 1 + r.Intn(first), Every: r.Intn(every + 1), Times: 1}
	if x.Every > 0 {
		x.Times = max(0, r.Intn(2*times)-times)
	}
	return x
}

// randomPlan returns a plan with at most so many small rules of one of the first kinds.
func randomPlan(r *rand.Rand, most, kinds int) api.RfPlan {
	var p api.RfPlan
	for range r.Intn(most + 1) {
		p.Rules = append(p.Rules, randomRule(r, kinds, 12, 6, 5))
	}
	return p
}

// anyPlan returns a plan with rules of all sizes and kinds.
func anyPlan(r *rand.Rand, most int) api.RfPlan {
	var p api.RfPlan
	for range r.Intn(most + 1) {
		p.Rules = append(p.Rules, randomRule(r, api.RfKinds, api.MaxRfFirst, api.MaxRfEvery, api.MaxRfTimes+1))
	}
	return p
}

// stateOf returns the state of p after so many calls of each kind, which are counted by the model.
func stateOf(p api.RfPlan, calls [api.RfKinds]int) api.RfState {
	s := api.RfState{Plan: p, Calls: calls}
	for kind, n := range calls {
		for i := 1; i <= n; i++ {
			if planRefuses(p, kind, i) {
				s.Hits[kind]++
			}
		}
	}
	return s
}

// equalPlans reports whether two plans have the same rules.
func equalPlans(a, b api.RfPlan) bool {
	return slices.Equal(a.Rules, b.Rules)
}

// equalStates reports whether two states are equal.
func equalStates(a, b api.RfState) bool {
	return equalPlans(a.Plan, b.Plan) && a.Calls == b.Calls && a.Hits == b.Hits
}

// wrongPlans are plans that are not valid, with what Check returns of them.
func wrongPlans() []wrongPlan {
	good := api.RfRule{First: 1, Times: 1}
	all := []wrongPlan{
		{plan(api.RfRule{}), 0, api.ErrRange},
		{plan(good, api.RfRule{Kind: 7, First: 1, Times: 1}), 1, api.ErrArg},
		{plan(good, good, api.RfRule{First: 1}), 2, api.ErrForm},
		{plan(good, api.RfRule{First: 1, Times: 2}, api.RfRule{Kind: -1}), 1, api.ErrForm},
		{api.RfPlan{Rules: make([]api.RfRule, 51)}, 0, api.ErrLong},
		{api.RfPlan{Rules: slices.Repeat([]api.RfRule{good}, 51)}, 0, api.ErrLong},
		{api.RfPlan{Rules: append(slices.Repeat([]api.RfRule{good}, 49), api.RfRule{Kind: 9})}, 49, api.ErrArg},
	}
	for _, n := range extremes {
		all = append(all,
			wrongPlan{plan(api.RfRule{Kind: n, First: n, Every: n, Times: n}), 0, api.ErrArg},
			wrongPlan{plan(good, api.RfRule{First: n, Every: n, Times: n}), 1, api.ErrRange},
			wrongPlan{plan(good, api.RfRule{First: 1, Every: n, Times: 1}), 1, api.ErrRange},
			wrongPlan{plan(good, api.RfRule{First: 1, Every: 1, Times: n}), 1, api.ErrRange},
		)
	}
	return all
}

// wrongPlan is a plan that is not valid, with what Check returns of it.
type wrongPlan struct {
	p    api.RfPlan
	rule int
	e    api.Errno
}

// answer is the results of a call.
type answer struct {
	value any
	e     api.Errno
}

// of makes an answer of what a function has returned.
func of[T any](value T, e api.Errno) answer {
	return answer{value, e}
}

// check compares two values, which are printed, so that nil and empty lists are equal.
func check(t *testing.T, got, want any, what ...any) {
	t.Helper()
	g, w := fmt.Sprint(got), fmt.Sprint(want)
	if g != w {
		t.Fatalf("%.300s: %.300s, want %.300s", fmt.Sprint(what...), g, w)
	}
}

// short returns the text of a plan in one line.
func short(p api.RfPlan) string {
	s, e := refusals.Print(p)
	if e != api.OK {
		return fmt.Sprint(p)
	}
	return strings.ReplaceAll(strings.TrimSuffix(s, "\n"), "\n", " / ")
}
