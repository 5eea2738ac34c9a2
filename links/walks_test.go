package links_test

import (
	"slices"
	"testing"

	"polder/api"
	"polder/links"
)

// slotsOf returns the slots of what All yields.
func slotsOf(l []met) []int {
	var slots []int
	for _, x := range l {
		slots = append(slots, x.slot)
	}
	return slots
}

// P4.5: whatever is done to one slot while it is yielded, all slots of the list are met as they were
func TestWalkWithChanges(t *testing.T) {
	for _, m := range small() {
		for list := range m.lists {
			for _, back := range []bool{false, true} {
				want := m.all(list, back)
				for i, x := range want {
					// A slot that is moved behind the others of its list is met again: TestWalkWithMovesBehind.
					for _, a := range actions([]int{x.slot}, upTo(len(m.lists)), "new") {
						behind := a.name == "Move" && a.list == list && a.front == back
						if a.name == "Push" || a.name == "After" || behind {
							continue
						}
						checkWalkWith(t, m, list, back, i, a, want)
					}
				}
			}
		}
	}
}

// checkWalkWith does the call when the slot number i is yielded.
func checkWalkWith(t *testing.T, m *model, list int, back bool, i int, a action, want []met) {
	t.Helper()
	p, after := load(t, m), m.clone()
	var l []met
	for slot, v := range p.All(list, back) {
		if len(l) == i {
			checkAction(t, p, after, a)
		}
		l = append(l, met{slot, v})
		if len(l) > len(want) {
			break
		}
	}
	if !slices.Equal(l, want) {
		t.Fatalf("All(%d, %v) of %v with %v at %d: %v, want %v", list, back, m.lists, a, i, l, want)
	}
	if l := walk(p, list, back); !slices.Equal(l, after.all(list, back)) {
		t.Fatalf("All(%d, %v) of %v after %v: %v, want %v", list, back, m.lists, a, l, after.all(list, back))
	}
}

// P4.5: each slot is changed when it is yielded
func TestWalkThatChangesAll(t *testing.T) {
	for _, m := range small() {
		for list := range m.lists {
			for _, back := range []bool{false, true} {
				other := (list + 1) % len(m.lists)
				for name, f := range map[string]func(p *links.Pool[string], slot int){
					"Take":            func(p *links.Pool[string], slot int) { p.Take(slot) },
					"Put":             func(p *links.Pool[string], slot int) { p.Put(slot, "new") },
					"Move":            func(p *links.Pool[string], slot int) { p.Move(slot, list, !back) },
					"Move to another": func(p *links.Pool[string], slot int) { p.Move(slot, other, other == list != back) },
				} {
					p := load(t, m)
					var l []met
					for slot, v := range p.All(list, back) {
						f(p, slot)
						l = append(l, met{slot, v})
					}
					if !slices.Equal(l, m.all(list, back)) {
						t.Fatalf("All(%d, %v) of %v with %s: %v", list, back, m.lists, name, l)
					}
				}
			}
		}
	}
}

// five returns a pool with the slots 0 to 4 in the list 0, whose values are a to e, and three free slots.
func five(t *testing.T) *links.Pool[string] {
	t.Helper()
	p := pool(t, 8, 2)
	for _, v := range []string{"a", "b", "c", "d", "e"} {
		p.Push(0, v, false)
	}
	return p
}

// P4.5: the slot that comes next is found before one is yielded, and not earlier
func TestWalkFindsNextFirst(t *testing.T) {
	p := five(t)
	var l []met
	for slot, v := range p.All(0, false) {
		if slot == 0 || slot == 4 {
			p.After(slot, "new") // comes too late
		}
		if slot == 1 {
			p.Take(3)
			p.Put(2, "changed")
			p.Push(0, "last", false)
		}
		l = append(l, met{slot, v})
	}
	if !slices.Equal(l, []met{{0, "a"}, {1, "b"}, {2, "changed"}, {4, "e"}, {3, "last"}}) {
		t.Errorf("All: %v", l)
	}
	p = five(t)
	l = nil
	for slot, v := range p.All(0, true) {
		if slot == 3 {
			p.Push(0, "first", true)
			p.After(2, "too late")
			p.After(0, "between")
		}
		l = append(l, met{slot, v})
	}
	if !slices.Equal(l, []met{{4, "e"}, {3, "d"}, {2, "c"}, {1, "b"}, {7, "between"}, {0, "a"}, {5, "first"}}) {
		t.Errorf("All backwards: %v", l)
	}
}

// P4.5: a slot that is moved behind the others is met there again
func TestWalkWithMovesBehind(t *testing.T) {
	for _, back := range []bool{false, true} {
		p, first := five(t), 0
		if back {
			first = 4
		}
		var slots []int
		for slot := range p.All(0, back) {
			if slot == first && len(slots) == 0 {
				p.Move(slot, 0, back)
			}
			slots = append(slots, slot)
		}
		want := []int{0, 1, 2, 3, 4, 0}
		if back {
			want = []int{4, 3, 2, 1, 0, 4}
		}
		if !slices.Equal(slots, want) {
			t.Errorf("All(0, %v): %v", back, slots)
		}
	}
}

// P4.5, R1: a walk whose next slot is taken out of the list yields no slot that is not in the list
func TestWalkThatLosesNext(t *testing.T) {
	for name, f := range map[string]func(p *links.Pool[string], next int){
		"taken": func(p *links.Pool[string], next int) { p.Take(next) },
		"moved": func(p *links.Pool[string], next int) { p.Move(next, 1, true) },
	} {
		for _, back := range []bool{false, true} {
			p := five(t)
			p.Push(1, "other", false)
			var slots []int
			for slot := range p.All(0, back) {
				if slot == 2 {
					next, _ := p.Step(slot, back)
					f(p, next)
				}
				slots = append(slots, slot)
			}
			want := []int{0, 1, 2}
			if back {
				want = []int{4, 3, 2}
			}
			if !slices.Equal(slots, want) {
				t.Errorf("the next slot is %s: All(0, %v) = %v", name, back, slots)
			}
		}
	}
}

// P4.5: a loop may end early, and the sequence be gone through again, and sees the pool as it is then
func TestWalksAgain(t *testing.T) {
	p := five(t)
	forth, back := p.All(0, false), p.All(0, true)
	for n := 1; n <= 5; n++ {
		l := 0
		forth(func(slot int, v string) bool {
			if l == n || slot != l || v != string(rune('a'+l)) {
				t.Fatalf("%d slots: after %d, %d with %q", n, l, slot, v)
			}
			l++
			return l < n
		})
		if l != n {
			t.Fatalf("%d slots: %d", n, l)
		}
	}
	p.Take(2)
	var slots, reversed []int
	for slot := range forth {
		slots = append(slots, slot)
	}
	for slot := range back {
		reversed = append(reversed, slot)
	}
	if !slices.Equal(slots, []int{0, 1, 3, 4}) || !slices.Equal(reversed, []int{4, 3, 1, 0}) {
		t.Errorf("again: %v, %v", slots, reversed)
	}
}

// P4.5: loops over one list inside of each other
func TestWalksNested(t *testing.T) {
	p := pool(t, 3, 1)
	for range 3 {
		p.Push(0, "x", true)
	}
	all := p.All(0, false)
	var l []int
	for a := range all {
		for b := range all {
			l = append(l, 10*a+b)
		}
	}
	if !slices.Equal(l, []int{22, 21, 20, 12, 11, 10, 2, 1, 0}) {
		t.Errorf("pairs: %v", l)
	}
}

// P4.5: lists that there are not, and an empty one
func TestWalksOfNothing(t *testing.T) {
	p := five(t)
	for _, list := range append([]int{1, 2, 64}, extremes...) {
		for _, back := range []bool{false, true} {
			q := p.All(list, back)
			if q == nil {
				t.Fatalf("All(%d, %v) is nil", list, back)
			}
			for slot := range q {
				t.Errorf("All(%d, %v) yields %d", list, back, slot)
			}
		}
	}
}

// P4.4: what is asked about slots that there are not, free ones, and lists that there are not
func TestAsksOfNothing(t *testing.T) {
	p := five(t)
	for _, slot := range append([]int{5, 7, 8}, extremes...) {
		checkAnswer(t, of(p.Get(slot)), answer{"", api.ErrNone}, "Get", slot)
		checkAnswer(t, of(p.Where(slot)), answer{0, api.ErrNone}, "Where", slot)
		checkAnswer(t, of(p.Step(slot, false)), answer{0, api.ErrNone}, "Step", slot)
		checkAnswer(t, of(p.Step(slot, true)), answer{0, api.ErrNone}, "Step", slot)
		if e := p.Put(slot, "x"); e != api.ErrNone {
			t.Errorf("Put(%d): %d", slot, e)
		}
	}
	for _, list := range append([]int{2, 64}, extremes...) {
		checkAnswer(t, of(p.Len(list)), answer{0, api.ErrRange}, "Len", list)
		checkAnswer(t, of(p.End(list, false)), answer{0, api.ErrRange}, "End", list)
		checkAnswer(t, of(p.End(list, true)), answer{0, api.ErrRange}, "End", list)
	}
	checkAnswer(t, of(p.Len(1)), answer{0, api.OK}, "Len")
	checkAnswer(t, of(p.End(1, true)), answer{0, api.ErrNone}, "End")
	checkAnswer(t, of(p.End(1, false)), answer{0, api.ErrNone}, "End")
}
