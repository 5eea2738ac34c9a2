package links_test

import (
	"math/rand"
	"reflect"
	"slices"
	"testing"

	"polder/api"
	"polder/links"
)

// P4, R5: a pool that is nil, or was not made by the package
func TestPoolsOfNobody(t *testing.T) {
	for name, p := range map[string]*links.Pool[string]{"nil": nil, "zero": {}, "new": new(links.Pool[string])} {
		for _, n := range append([]int{0, 1}, extremes...) {
			for _, a := range actions([]int{n}, []int{n}, "x") {
				if got := a.on(p); got.e != api.ErrNil || !zero(got.value) {
					t.Errorf("%s: %v: %v", name, a, got)
				}
			}
			for what, got := range map[string]answer{
				"Get":       of(p.Get(n)),
				"Where":     of(p.Where(n)),
				"Step":      of(p.Step(n, false)),
				"Step back": of(p.Step(n, true)),
				"End":       of(p.End(n, true)),
				"End back":  of(p.End(n, false)),
				"Len":       of(p.Len(n)),
			} {
				if got.e != api.ErrNil || !zero(got.value) {
					t.Errorf("%s: %s(%d): %v", name, what, n, got)
				}
			}
			if len(walk(p, n, false))+len(walk(p, n, true)) > 0 {
				t.Errorf("%s: All(%d) yields slots", name, n)
			}
		}
		if s := p.Save(); !reflect.DeepEqual(s, api.LkState[string]{}) {
			t.Errorf("%s: Save: %v", name, s)
		}
	}
}

// zero reports whether a result is zero, or there is none.
func zero(v any) bool {
	return v == nil || v == 0 || v == ""
}

// longer returns a state whose slices have more memory behind them, and all of this memory.
func longer(s api.LkState[string]) (short, long api.LkState[string]) {
	long = api.LkState[string]{
		Values: append(slices.Clone(s.Values), "a", "b"),
		List:   append(slices.Clone(s.List), 77, 78),
		Next:   append(slices.Clone(s.Next), 77, 78),
		Prev:   append(slices.Clone(s.Prev), 77, 78),
		First:  append(slices.Clone(s.First), 77, 78),
		Last:   append(slices.Clone(s.Last), 77, 78),
	}
	short = api.LkState[string]{
		Values: long.Values[:len(s.Values)],
		List:   long.List[:len(s.List)],
		Next:   long.Next[:len(s.Next)],
		Prev:   long.Prev[:len(s.Prev)],
		First:  long.First[:len(s.First)],
		Last:   long.Last[:len(s.Last)],
	}
	return short, long
}

// P4.10, R3: arguments are not modified, nor what is behind them
func TestArgumentsStay(t *testing.T) {
	r := rand.New(rand.NewSource(50))
	for range 200 {
		m := randomModel(r, 1+r.Intn(8), 1+r.Intn(4))
		s := m.state()
		for slot := range s.Values {
			s.Values[slot] += "x" // those of free slots too
		}
		if r.Intn(3) == 0 {
			all, counts := numbers(s)
			i := r.Intn(len(all))
			*all[i] = r.Intn(counts[i]+3) - 2
		}
		short, long := longer(s)
		_, kept := longer(s)
		links.Check(short)
		p, e := links.Load(short)
		if e == api.OK {
			for range 20 {
				randomAction(r, len(m.values), len(m.lists), true).on(p)
			}
		}
		if !reflect.DeepEqual(long, kept) {
			t.Fatalf("an argument was changed: %v, want %v", long, kept)
		}
	}
}

// spoil overwrites all that a state has, and the memory behind it.
func spoil(s api.LkState[string]) {
	for i := range s.Values[:cap(s.Values)] {
		s.Values[:cap(s.Values)][i] = "spoilt"
	}
	for _, l := range [][]int{s.List, s.Next, s.Prev, s.First, s.Last} {
		for i := range l[:cap(l)] {
			l[:cap(l)][i] = 99
		}
	}
}

// P4.10, R3: a pool shares no memory with the state that it was made of, or with states that it has returned
func TestStatesAreFresh(t *testing.T) {
	r := rand.New(rand.NewSource(51))
	for range 50 {
		m := randomModel(r, 1+r.Intn(8), 1+r.Intn(4))
		s := m.state()
		p, e := links.Load(s)
		if e != api.OK {
			t.Fatalf("Load: %d", e)
		}
		spoil(s)
		checkState(t, p, m, "the argument of Load is changed")
		a, b := p.Save(), p.Save()
		spoil(a)
		if !reflect.DeepEqual(b, m.state()) {
			t.Fatalf("Save shares memory with another Save: %v", b)
		}
		checkState(t, p, m, "the result of Save is changed")
		for range 20 {
			randomAction(r, len(m.values), len(m.lists), true).on(p)
		}
		if !reflect.DeepEqual(b, m.state()) {
			t.Fatalf("the result of Save has changed: %v", b)
		}
	}
}

// P4.10, R3: the slices of one state share no memory with each other
func TestSlicesOfStates(t *testing.T) {
	s := pool(t, 3, 3).Save()
	for i, l := range [][]int{s.List, s.Next, s.Prev, s.First, s.Last} {
		for j := range l[:cap(l)] {
			l[:cap(l)][j] = 10 + i
		}
	}
	for i, l := range [][]int{s.List, s.Next, s.Prev, s.First, s.Last} {
		if !slices.Equal(l, []int{10 + i, 10 + i, 10 + i}) {
			t.Errorf("the slice %d: %v", i, l)
		}
	}
}

// R6: pools are independent, and those with equal states return the same
func TestPoolsAreIndependent(t *testing.T) {
	r := rand.New(rand.NewSource(52))
	m := randomModel(r, 6, 3)
	p, q, other := load(t, m), load(t, m), pool(t, 6, 3)
	for range 1000 {
		a := randomAction(r, 6, 3, r.Intn(2) == 0)
		randomAction(r, 6, 3, r.Intn(2) == 0).on(other)
		want := a.on(m)
		checkAnswer(t, a.on(p), want, "one pool", a)
		checkState(t, p, m, "one pool")
		checkAnswer(t, a.on(q), want, "an equal pool", a)
		checkState(t, q, m, "an equal pool")
	}
}
