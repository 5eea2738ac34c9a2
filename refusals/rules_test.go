package refusals_test

import (
	"fmt"
	"math/rand"
	"slices"
	"strings"
	"testing"

	"polder/api"
	"polder/refusals"
)

// anyNumber returns a number that may be valid or not.
func anyNumber(r *rand.Rand) int {
	numbers := append([]int{0, 1, 2, 5, 6, 7, 12, 13, 1000, 1001, 10000, 10001, 1000000, 1000001}, extremes...)
	return numbers[r.Intn(len(numbers))]
}

// P5.10, R1, R2: all arguments are accepted, and nothing is returned with an error
func TestAllArguments(t *testing.T) {
	r := rand.New(rand.NewSource(40))
	for range 3000 {
		p := anyPlan(r, 4)
		for i := range p.Rules {
			if r.Intn(6) == 0 {
				p.Rules[i] = api.RfRule{Kind: anyNumber(r), First: anyNumber(r), Every: anyNumber(r), Times: anyNumber(r)}
			}
		}
		for name, got := range planCalls(p, anyNumber(r), anyNumber(r)) {
			if got.e != api.OK && !zero(got.value) {
				t.Fatalf("%s: %v", name, got)
			}
		}
		s := api.RfState{Plan: p}
		for kind := range api.RfKinds {
			if r.Intn(3) == 0 {
				s.Calls[kind], s.Hits[kind] = anyNumber(r), anyNumber(r)
			}
		}
		next, is, e := refusals.Next(s, anyNumber(r))
		rest, f := refusals.Rest(s)
		if e != api.OK && (is || !zero(next)) || f != api.OK && !zero(rest) {
			t.Fatalf("%v: Next: %v, %v, %d; Rest: %v, %d", s, next, is, e, rest, f)
		}
		text := make([]byte, r.Intn(40))
		for i := range text {
			text[i] = "join 1\n\xff\x00"[r.Intn(9)]
		}
		if got := parse(string(text)); got.e != api.OK && len(got.p.Rules) > 0 {
			t.Fatalf("Parse(%q): %v", text, got)
		}
	}
	for _, text := range []string{strings.Repeat("\xff", 1<<21), strings.Repeat("\n", 1<<21), strings.Repeat("join 1\n", 1<<18)} {
		check(t, parse(text), parsed{e: api.ErrLong}, "Parse of a long text")
	}
}

// callAll calls all functions with a plan, and returns the plans in what they return.
func callAll(p, q api.RfPlan, s api.RfState) map[string]api.RfPlan {
	refusals.Check(p)
	refusals.Refused(p, 2, 5)
	refusals.Hits(p, 2, 5)
	refusals.After(p, 2, 5)
	refusals.Same(p, q)
	refusals.CheckState(s)
	refusals.Print(p)
	reduced, _ := refusals.Reduce(p)
	start, _ := refusals.Start(p)
	next, _, _ := refusals.Next(s, 2)
	rest, _ := refusals.Rest(s)
	parsed, _, _ := refusals.Parse("commit 1\ncommit 2 every 2\n")
	return map[string]api.RfPlan{"Reduce": reduced, "Start": start.Plan, "Next": next.Plan, "Rest": rest, "Parse": parsed}
}

// P5.10, R3: arguments are not modified, nor what is behind them
func TestArgumentsStay(t *testing.T) {
	r := rand.New(rand.NewSource(41))
	for range 100 {
		p := randomPlan(r, 10, 3)
		p = both(p, p)
		s := stateOf(p, [api.RfKinds]int{r.Intn(20), r.Intn(20), r.Intn(20)})
		behind := append(slices.Clone(p.Rules), api.RfRule{Kind: 77}, api.RfRule{First: 78})
		kept := slices.Clone(behind)
		p.Rules = behind[:len(p.Rules)]
		s.Plan = p
		callAll(p, p, s)
		if !slices.Equal(behind, kept) {
			t.Fatalf("an argument was changed: %v, want %v", behind, kept)
		}
	}
}

// P5.10, R3, R6: results share no memory with arguments or with each other, and are the same again
func TestResultsAreFresh(t *testing.T) {
	p := example()
	s := stateOf(p, [api.RfKinds]int{1, 2, 3})
	first := fmt.Sprint(callAll(p, p, s))
	for name, q := range callAll(p, p, s) {
		if len(q.Rules) == 0 {
			t.Errorf("%s: no rules", name)
		}
		others := callAll(p, p, s)
		for i := range q.Rules[:cap(q.Rules)] {
			q.Rules[:cap(q.Rules)][i] = api.RfRule{Kind: 99}
		}
		if fmt.Sprint(others) != first || !equalPlans(p, example()) || !equalPlans(s.Plan, example()) {
			t.Fatalf("%s: the result shares memory", name)
		}
	}
	if again := fmt.Sprint(callAll(p, p, s)); again != first {
		t.Errorf("the results were %s, and are %s", first, again)
	}
}

// P5.10, R4: a nil list of rules and an empty one mean the same
func TestNilPlans(t *testing.T) {
	empty := api.RfPlan{Rules: []api.RfRule{}}
	for _, kind := range []int{-1, 0, 6, 7} {
		for _, n := range []int{-1, 0, 1, 1000000, 1000001} {
			a, b := planCalls(api.RfPlan{}, kind, n), planCalls(empty, kind, n)
			for name := range a {
				check(t, b[name], a[name], name)
			}
		}
	}
	check(t, parse(""), parsed{}, "Parse of nothing")
	checkSame(t, empty, api.RfPlan{}, true)
	check(t, of(refusals.Check(empty)), of(0, api.OK), "Check")
}
