package radixmap_test

import (
	"math"
	"math/rand"
	"reflect"
	"slices"
	"testing"

	"polder/api"
	"polder/radixmap"
)

// P7, R5: a map that is nil, or was not made by the package
func TestMapsOfNobody(t *testing.T) {
	for what, m := range map[string]*radixmap.Map{"nil": nil, "zero": {}, "new": new(radixmap.Map)} {
		for _, n := range append([]int{-1, 0, 1, 1023, 1024}, extremes...) {
			for _, d := range append(wrongDescs, descs...) {
				for _, a := range []action{{name: "Set", from: n, to: n, desc: d}, {name: "Set", from: 0, to: n, desc: d}, {name: "Clear", from: n, to: n}, {name: "Clear", from: 0, to: n}, {name: "Get", from: n}, {name: "Owned", desc: d}} {
					got := a.on(m)
					if got.e != api.ErrNil || !reflect.ValueOf(got.value).IsZero() {
						t.Fatalf("%s: %v: %v", what, a, got)
					}
				}
			}
			for page := range m.Walk(n) {
				t.Errorf("%s: Walk yields %d", what, page)
			}
		}
		check(t, m.Nodes(), 0, what, ": Nodes")
		check(t, len(m.Runs()), 0, what, ": Runs")
		check(t, plain(m.Save()), api.RmState{}, what, ": Save")
	}
}

// R1, R2: all numbers are accepted, and nothing is returned with an error
func TestAllArguments(t *testing.T) {
	r := rand.New(rand.NewSource(50))
	numbers := append([]int{-1, 0, 1, 7, 8, 63, 64, 1023, 1024, 1025, 4095}, extremes...)
	number := func() int { return numbers[r.Intn(len(numbers))] }
	desc := func() api.RmDesc { return api.RmDesc{Owner: number(), State: number(), Stamp: int64(number())} }
	m := load(t, randomModel(r, 100, 1024).Save())
	for range 50000 {
		a := action{name: names[r.Intn(len(names))], from: number(), to: number(), desc: desc()}
		if got := a.on(m); got.e != api.OK && !reflect.ValueOf(got.value).IsZero() {
			t.Fatalf("%v: %v", a, got)
		}
		if x, e := radixmap.Pack(desc()); e != api.OK && x != 0 {
			t.Fatalf("Pack: %d, %d", x, e)
		}
		for page := range m.Walk(number()) {
			if page < 0 || page > 1023 {
				t.Fatalf("Walk yields %d", page)
			}
			break
		}
	}
	for range 20000 {
		s := api.RmState{Most: r.Intn(5), Nodes: make([]api.RmNode, r.Intn(5))}
		for i := range s.Nodes {
			s.Nodes[i] = api.RmNode{Level: r.Intn(4) - 1, Kids: []int{number(), r.Intn(5)}[:r.Intn(3)], Words: []uint64{uint64(number()), 1}[:r.Intn(3)]}
		}
		if m, e := radixmap.Load(s); (m == nil) != (e != api.OK) {
			t.Fatalf("Load of %v: %v, %d", s, m != nil, e)
		}
	}
}

// longer returns a state whose lists have more memory behind them.
func longer(s api.RmState) api.RmState {
	s.Nodes = append(slices.Clone(s.Nodes), api.RmNode{Level: 77}, api.RmNode{Level: 78})[:len(s.Nodes)]
	for i := range s.Nodes {
		n := &s.Nodes[i]
		n.Kids = append(slices.Clone(n.Kids), 77, 78)[:len(n.Kids)]
		n.Words = append(slices.Clone(n.Words), 77, 78)[:len(n.Words)]
	}
	return s
}

// whole returns a copy of a state with the memory behind its lists.
func whole(s api.RmState) api.RmState {
	s.Nodes = slices.Clone(s.Nodes[:cap(s.Nodes)])
	for i := range s.Nodes {
		n := &s.Nodes[i]
		n.Kids, n.Words = slices.Clone(n.Kids[:cap(n.Kids)]), slices.Clone(n.Words[:cap(n.Words)])
	}
	return s
}

// spoil overwrites all that a state has, and the memory behind it.
func spoil(s api.RmState) {
	for _, n := range s.Nodes[:cap(s.Nodes)] {
		overwrite(n.Kids, 99)
		overwrite(n.Words, 99)
	}
	overwrite(s.Nodes, api.RmNode{Level: 99})
}

func overwrite[T any](l []T, v T) {
	l = l[:cap(l)]
	for i := range l {
		l[i] = v
	}
}

// P7.10, R3: arguments are not changed, nor what is behind them, also by later calls
func TestArgumentsStay(t *testing.T) {
	r := rand.New(rand.NewSource(51))
	for range 300 {
		s := randomModel(r, 1+r.Intn(20), 150).Save()
		if r.Intn(3) == 0 {
			spoilOnce(r, &s)
		}
		s = longer(s)
		kept := whole(s)
		radixmap.Check(s)
		m, e := radixmap.Load(s)
		if e == api.OK {
			for range 20 {
				randomAction(r, 150).on(m)
			}
		}
		check(t, whole(s), kept, "the argument")
	}
}

// P7.10, R3: maps share no memory with states that they were made of, or that they have returned
func TestStatesAreFresh(t *testing.T) {
	r := rand.New(rand.NewSource(52))
	for range 100 {
		want := randomModel(r, 1+r.Intn(20), 150)
		s := longer(want.Save())
		m := load(t, s)
		spoil(s)
		checkState(t, m, want.Save(), "the argument of Load is changed")
		a, b := m.Save(), m.Save()
		spoil(a)
		check(t, plain(b), plain(want.Save()), "another Save, after the result of Save is changed")
		checkState(t, m, want.Save(), "the result of Save is changed")
		m.Clear(0, 1024)
		m.Set(0, 1, five())
		check(t, plain(b), plain(want.Save()), "the result of Save, after later calls")
	}
}

// P7.10, R3: the lists of a state share no memory with each other
func TestListsOfStates(t *testing.T) {
	m := start(t, 145)
	m.Set(0, 1024, five())
	s := m.Save()
	for i, n := range s.Nodes {
		overwrite(n.Kids, i)
		overwrite(n.Words, uint64(i))
	}
	for i, n := range s.Nodes {
		if slices.ContainsFunc(n.Kids, func(kid int) bool { return kid != i }) || slices.ContainsFunc(n.Words, func(x uint64) bool { return x != uint64(i) }) {
			t.Errorf("the node %d: %v", i, n)
		}
	}
	checkState(t, m, load(t, m.Save()).Save(), "after the lists were overwritten")
}

// P7.10, R3: other results are new memory too
func TestListsAreFresh(t *testing.T) {
	m := start(t, 145)
	m.Set(3, 900, five())
	s := m.Save()
	runs := m.Runs()
	pages, _ := m.Owned(5)
	overwrite(runs, api.RmRun{From: 99})
	overwrite(pages, 99)
	checkState(t, m, s, "the results of Runs and Owned are changed")
	check(t, m.Runs(), []api.RmRun{{From: 3, To: 900, Desc: five()}}, "Runs")
	again, _ := m.Owned(5)
	check(t, len(again) == 897 && again[0] == 3 && again[896] == 899, true, "Owned")
}

// R4: lists that are nil and that are empty mean the same
func TestNilLists(t *testing.T) {
	s := small()
	for i := range s.Nodes {
		n := &s.Nodes[i]
		n.Kids, n.Words = append([]int{}, n.Kids...), append([]uint64{}, n.Words...)
	}
	checkCheck(t, s, 0, api.OK, "empty lists")
	checkCheck(t, plain(s), 0, api.OK, "nil lists")
	checkState(t, load(t, s), plain(s), "empty lists")
	checkCheck(t, api.RmState{Most: 1, Nodes: []api.RmNode{}}, 0, api.ErrForm, "empty nodes")
	checkCheck(t, api.RmState{Most: 0, Nodes: []api.RmNode{}}, 0, api.ErrRange, "empty nodes")
}

// R6: maps are independent, and those with equal states return the same
func TestMapsAreIndependent(t *testing.T) {
	r := rand.New(rand.NewSource(53))
	want := randomModel(r, 40, 300)
	m, same, other := load(t, want.Save()), load(t, want.Save()), start(t, 40)
	for range 1000 {
		a := randomAction(r, 300)
		randomAction(r, 300).on(other)
		wanted := a.on(want)
		check(t, a.on(m), wanted, a)
		check(t, a.on(same), wanted, a, " in an equal map")
	}
	checkState(t, m, want.Save(), "one map")
	checkState(t, same, want.Save(), "an equal map")
}

// R1: stamps at the ends of their type, in maps
func TestStamps(t *testing.T) {
	for stamp, want := range map[int64]api.Errno{0: api.OK, 1000000000000: api.OK, -1: api.ErrArg, 1000000000001: api.ErrArg, math.MinInt64: api.ErrArg, math.MaxInt64: api.ErrArg, 1 << 40: api.ErrArg} {
		m := start(t, 3)
		d := api.RmDesc{Stamp: stamp}
		check(t, m.Set(1023, 1024, d), want, "Set of ", d)
		if want == api.OK {
			check(t, of(m.Get(1023)), of(d, api.OK), "Get after Set of ", d)
		}
	}
}
