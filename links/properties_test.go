package links_test

import (
	"errors"
	"fmt"
	"math/rand"
	"reflect"
	"slices"
	"testing"

	"polder/api"
	"polder/links"
)

// P4.7: all states that calls lead to are right, and Load of Save is a pool with the same state
func TestStatesOfCalls(t *testing.T) {
	r := rand.New(rand.NewSource(40))
	for _, size := range [][2]int{{1, 1}, {4, 2}, {20, 5}, {100, 64}} {
		p := pool(t, size[0], size[1])
		for range 2000 {
			randomAction(r, size[0], size[1], true).on(p)
			s := p.Save()
			checkWrong(t, s, api.LkWrong{})
			q, _ := links.Load(s)
			if !reflect.DeepEqual(q.Save(), s) {
				t.Fatalf("Load of Save: %v, want %v", q.Save(), s)
			}
		}
	}
}

// P4.8: Take of what Push or After has returned gives the value, and the state as it was
func TestTakeUndoes(t *testing.T) {
	for _, m := range small() {
		for _, a := range actions(upTo(len(m.values)), upTo(len(m.lists)), "new") {
			if a.name != "Push" && a.name != "After" {
				continue
			}
			p := load(t, m)
			done := a.on(p)
			if done.e != api.OK {
				continue
			}
			checkAnswer(t, of(p.Take(done.value.(int))), answer{"new", api.OK}, "Take", done.value)
			checkState(t, p, m, fmt.Sprint("Take after ", a))
		}
	}
}

// P4.8: each slot is free, or is yielded by All of just one list, once; All backwards is All, reversed
func TestEachSlotOnce(t *testing.T) {
	r := rand.New(rand.NewSource(41))
	for _, size := range [][2]int{{1, 2}, {5, 2}, {30, 7}, {300, 64}} {
		for range 30 {
			m := randomModel(r, size[0], size[1])
			p := load(t, m)
			times := make([]int, size[0])
			for list := range size[1] {
				forth, back := walk(p, list, false), walk(p, list, true)
				for _, x := range forth {
					times[x.slot]++
					checkAnswer(t, of(p.Where(x.slot)), answer{list, api.OK}, "Where", x.slot)
					checkAnswer(t, of(p.Get(x.slot)), answer{x.value, api.OK}, "Get", x.slot)
				}
				slices.Reverse(back)
				if !slices.Equal(forth, back) {
					t.Fatalf("the list %d: %v, backwards %v", list, forth, back)
				}
				checkAnswer(t, of(p.Len(list)), answer{len(forth), api.OK}, "Len", list)
			}
			for slot, n := range times {
				_, e := p.Where(slot)
				if n > 1 || (n == 1) != (e == api.OK) {
					t.Fatalf("the slot %d is yielded %d times, Where: %d", slot, n, e)
				}
			}
		}
	}
}

// linksOf returns the slots, errors and links that many calls to a pool lead to, and checks that values stay with their slots.
func linksOf[T any](t *testing.T, value func(i int) T) []string {
	t.Helper()
	r := rand.New(rand.NewSource(42))
	p, e := links.New[T](6, 3)
	trail := []string{fmt.Sprint(e)}
	for i := range 3000 {
		a := randomAction(r, 6, 3, i%40 < 20)
		n := 0
		switch a.name {
		case "Push":
			n, e = p.Push(a.list, value(i), a.front)
		case "After":
			n, e = p.After(a.slot, value(i))
		case "Take":
			_, e = p.Take(a.slot)
		case "Move":
			e = p.Move(a.slot, a.list, a.front)
		case "Put":
			e = p.Put(a.slot, value(i))
		}
		s := p.Save()
		trail = append(trail, fmt.Sprint(a, n, e, s.List, s.Next, s.Prev, s.First, s.Last))
		if i%100 == 0 {
			p, e = links.Load(s)
			trail = append(trail, fmt.Sprint(e))
		}
	}
	return trail
}

// P4.9: values are of no consequence
func TestOtherTypes(t *testing.T) {
	want := linksOf(t, func(i int) int { return i })
	for name, trail := range map[string][]string{
		"zero":     linksOf(t, func(int) int { return 0 }),
		"string":   linksOf(t, func(i int) string { return fmt.Sprint(i) }),
		"nothing":  linksOf(t, func(int) struct{} { return struct{}{} }),
		"array":    linksOf(t, func(i int) [3]int64 { return [3]int64{2: int64(i)} }),
		"slice":    linksOf(t, func(i int) []byte { return make([]byte, i%5) }),
		"map":      linksOf(t, func(i int) map[int]int { return map[int]int{i: i} }),
		"function": linksOf(t, func(i int) func() int { return func() int { return i } }),
		"pointer":  linksOf(t, func(i int) *int { return &i }),
		"any":      linksOf(t, func(i int) any { return []any{nil, i, "x", []int{i}}[i%4] }),
		"error":    linksOf(t, func(i int) error { return errors.New(fmt.Sprint(i)) }),
		"no error": linksOf(t, func(i int) error { return nil }),
	} {
		if !slices.Equal(trail, want) {
			t.Errorf("a pool of the type %s has other links", name)
		}
	}
}

// P4.2, P4.3, P4.4: values of any type come back as they were put, and free slots have the zero value
func TestValuesOfOtherTypes(t *testing.T) {
	p, _ := links.New[[]int](3, 1)
	a, b := []int{1, 2}, []int{}
	p.Push(0, a, false)
	p.Push(0, b, true)
	if v, e := p.Get(0); &v[0] != &a[0] || len(v) != 2 || e != api.OK {
		t.Errorf("Get: %v, %d", v, e)
	}
	if v, e := p.Take(1); v == nil || len(v) != 0 || e != api.OK {
		t.Errorf("Take: %v, %d", v, e)
	}
	if v, e := p.Take(1); v != nil || e != api.ErrNone {
		t.Errorf("Take again: %v, %d", v, e)
	}
	if v, e := p.Get(2); v != nil || e != api.ErrNone {
		t.Errorf("Get of a free slot: %v, %d", v, e)
	}
	if s := p.Save(); s.Values[1] != nil || s.Values[2] != nil {
		t.Errorf("the values of free slots: %v", s.Values)
	}
	f, _ := links.New[func() string](1, 1)
	f.Push(0, func() string { return "called" }, false)
	for _, v := range f.All(0, false) {
		if v() != "called" {
			t.Error("All yields another function")
		}
	}
	f.Take(0)
	if v := f.Save().Values[0]; v != nil {
		t.Error("a free slot has a function")
	}
}
