package vmpage_test

import (
	"math/rand"
	"reflect"
	"slices"
	"testing"

	"polder/api"
	"polder/vmpage"
)

// P6, R5: a system that is nil, or was not made by the package
func TestSystemsOfNobody(t *testing.T) {
	names := []string{"Reserve", "Release", "Commit", "Decommit", "Protect", "Unprotect", "Join", "Split", "Read", "Write", "Kind", "Counts", "Plan"}
	for what, s := range map[string]*vmpage.System{"nil": nil, "zero": {}, "new": new(vmpage.System)} {
		for _, n := range append([]int{0, 1, 16, 1024, 65536}, extremes...) {
			for _, name := range names {
				for _, p := range append(wrongPlans(), noRules) {
					a := action{name: name, page: n, n: n, at: int64(n), plan: p}
					got := a.on(s)
					if got.e != api.ErrNil || !zero(got.value) {
						t.Fatalf("%s: %v: %v", what, a, got)
					}
				}
			}
		}
		if x := s.Save(); !reflect.DeepEqual(x, api.VmState{}) {
			t.Errorf("%s: Save: %v", what, x)
		}
	}
}

// zero reports whether a result has only zeros.
func zero(v any) bool {
	return v == [2]any{0, false} || reflect.ValueOf(v).IsZero()
}

// R1, R2: all numbers are accepted, and nothing is returned with an error
func TestAllArguments(t *testing.T) {
	r := rand.New(rand.NewSource(30))
	numbers := append([]int{0, 1, 15, 16, 17, 1008, 1023, 1024, 65535, 65536}, extremes...)
	s := load(t, randomModel(r, 1024).state())
	for range 20000 {
		a := randomAction(r, 1024)
		a.page, a.n, a.at = numbers[r.Intn(len(numbers))], numbers[r.Intn(len(numbers))], int64(numbers[r.Intn(len(numbers))])
		if got := a.on(s); got.e != api.OK && !zero(got.value) {
			t.Fatalf("%v: %v", a, got)
		}
	}
	number := func() int { return numbers[r.Intn(len(numbers))] }
	for range 3000 {
		x := api.VmState{
			Runs:     runs([3]int{number(), number(), number()}, [3]int{number(), number(), number()})[:r.Intn(3)],
			Huge:     []int{number(), number()}[:r.Intn(3)],
			Data:     []api.VmData{{Page: number()}, {Page: number(), Bytes: [64]byte{1}}}[:r.Intn(3)],
			Refusals: api.RfState{Plan: api.RfPlan{Rules: []api.RfRule{{Kind: number(), First: number(), Every: number(), Times: number()}}[:r.Intn(2)]}},
		}
		x.Refusals.Calls[r.Intn(api.RfKinds)] = number() * r.Intn(2)
		if s, e := vmpage.Load(x); (s == nil) != (e != api.OK) {
			t.Fatalf("Load of %v: %v, %d", x, s != nil, e)
		}
	}
}

// full is a state all lists of which have elements, with more memory behind them.
func full() api.VmState {
	x := possible(api.RfPlan{Rules: []api.RfRule{{Kind: api.RfCommit, First: 3, Every: 2}, {Kind: api.RfJoin, First: 5, Times: 1}}})
	x.Runs = slices.Grow(x.Runs, 5)
	x.Huge = slices.Grow(x.Huge, 5)
	x.Data = slices.Grow(x.Data, 5)
	x.Refusals.Plan.Rules = slices.Grow(x.Refusals.Plan.Rules, 5)
	return x
}

// spoil overwrites all that a state has, and the memory behind it.
func spoil(x api.VmState) {
	overwrite(x.Runs, api.VmRun{Page: 77, Pages: 77, Kind: 77})
	overwrite(x.Huge, 77)
	overwrite(x.Data, api.VmData{Page: 77})
	overwrite(x.Refusals.Plan.Rules, api.RfRule{Kind: 77})
}

func overwrite[T any](l []T, v T) {
	l = l[:cap(l)]
	for i := range l {
		l[i] = v
	}
}

// whole returns a state with all memory behind its lists.
func whole(x api.VmState) api.VmState {
	return api.VmState{Runs: x.Runs[:cap(x.Runs)], Huge: x.Huge[:cap(x.Huge)], Data: x.Data[:cap(x.Data)], Refusals: api.RfState{Plan: api.RfPlan{Rules: x.Refusals.Plan.Rules[:cap(x.Refusals.Plan.Rules)]}, Calls: x.Refusals.Calls, Hits: x.Refusals.Hits}}
}

// copied returns a state that shares no memory with x.
func copied(x api.VmState) api.VmState {
	x.Runs, x.Huge, x.Data, x.Refusals.Plan.Rules = slices.Clone(x.Runs), slices.Clone(x.Huge), slices.Clone(x.Data), slices.Clone(x.Refusals.Plan.Rules)
	return x
}

// R3: arguments are not changed, nor what is behind them, also by later calls
func TestArgumentsStay(t *testing.T) {
	r := rand.New(rand.NewSource(31))
	for range 30 {
		x := full()
		kept := copied(whole(x))
		s := load(t, x)
		other := system(t, x.Refusals.Plan)
		third := system(t, noRules)
		check(t, third.Plan(x.Refusals.Plan), api.OK, "Plan")
		for range 100 {
			a := randomAction(r, 64)
			a.on(s)
			a.on(other)
			a.on(third)
		}
		if !reflect.DeepEqual(whole(x), kept) {
			t.Fatalf("the argument is %v, want %v", whole(x), kept)
		}
	}
}

// R3: arguments are not kept, and results share no memory with systems or with each other
func TestStatesAreFresh(t *testing.T) {
	want := full()
	x := full()
	s := load(t, x)
	spoil(x)
	checkState(t, s, want, "the argument of Load is changed")
	a, b := s.Save(), s.Save()
	spoil(a)
	if !equalStates(b, want) {
		t.Errorf("Save shares memory with another Save: %v", b)
	}
	checkState(t, s, want, "the result of Save is changed")
	possibleCalls[api.RfReserve][0].on(s)
	possibleCalls[api.RfSplit][0].on(s)
	s.Write(64*16, 99)
	if !equalStates(b, want) {
		t.Errorf("the result of Save is changed by later calls: %v", b)
	}
	p := full().Refusals.Plan
	s = system(t, p)
	overwrite(p.Rules, api.RfRule{Kind: 77})
	checkState(t, s, api.VmState{Refusals: api.RfState{Plan: full().Refusals.Plan}}, "the argument of New is changed")
	p = full().Refusals.Plan
	s = system(t, noRules)
	check(t, s.Plan(p), api.OK, "Plan")
	overwrite(p.Rules, api.RfRule{Kind: 77})
	checkState(t, s, api.VmState{Refusals: api.RfState{Plan: full().Refusals.Plan}}, "the argument of Plan is changed")
}

// R4: lists that are nil and that are empty mean the same
func TestNilLists(t *testing.T) {
	empty := api.VmState{Runs: []api.VmRun{}, Huge: []int{}, Data: []api.VmData{}, Refusals: api.RfState{Plan: api.RfPlan{Rules: []api.RfRule{}}}}
	for _, s := range []*vmpage.System{load(t, empty), load(t, api.VmState{}), system(t, empty.Refusals.Plan), system(t, noRules)} {
		checkState(t, s, api.VmState{}, "without lists")
		check(t, s.Plan(empty.Refusals.Plan), api.OK, "Plan")
		check(t, s.Reserve(0, 1024), api.OK, "Reserve")
	}
}

// R6: systems are independent, and those with equal states return the same
func TestSystemsAreIndependent(t *testing.T) {
	r := rand.New(rand.NewSource(32))
	m := randomModel(r, 64)
	s, same, other := load(t, m.state()), load(t, m.state()), system(t, noRules)
	for range 1000 {
		a := randomAction(r, 64)
		randomAction(r, 64).on(other)
		want := a.on(m)
		check(t, a.on(s), want, a)
		check(t, a.on(same), want, a, " in an equal system")
	}
	checkState(t, s, m.state(), "one system")
	checkState(t, same, m.state(), "an equal system")
}
