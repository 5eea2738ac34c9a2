package links_test

import (
	"fmt"
	"math/rand"
	"slices"
	"testing"

	"polder/api"
	"polder/links"
)

// wrongIn returns what is wrong in a state, word by word as the document defines it.
func wrongIn(s api.LkState[string]) api.LkWrong {
	slots, lists := len(s.Values), len(s.First)
	if len(s.List) != slots || len(s.Next) != slots || len(s.Prev) != slots || slots < 1 || slots > 2000 ||
		len(s.Last) != lists || lists < 1 || lists > 64 {
		return api.LkWrong{Where: 1, Index: 0}
	}
	for i := range slots {
		switch {
		case s.List[i] < -1 || s.List[i] > lists-1,
			s.Next[i] < -1 || s.Next[i] > slots-1,
			s.Prev[i] < -1 || s.Prev[i] > slots-1,
			s.List[i] == -1 && (s.Next[i] != -1 || s.Prev[i] != -1):
			return api.LkWrong{Where: 2, Index: i}
		}
	}
	met := map[int]bool{}
	for list := range lists {
		before, at, steps := -1, s.First[list], 0
		for ; at != -1 && steps < slots; steps++ {
			if at < 0 || at >= slots || s.List[at] != list || s.Prev[at] != before {
				return api.LkWrong{Where: 3, Index: list}
			}
			met[at] = true
			before, at = at, s.Next[at]
		}
		if at != -1 || s.Last[list] != before {
			return api.LkWrong{Where: 3, Index: list}
		}
	}
	for i := range slots {
		if s.List[i] != -1 && !met[i] {
			return api.LkWrong{Where: 2, Index: i}
		}
	}
	return api.LkWrong{}
}

// checkWrong compares Check and Load with what is wrong in s.
func checkWrong(t *testing.T, s api.LkState[string], want api.LkWrong) {
	t.Helper()
	wantE := api.OK
	if want != (api.LkWrong{}) {
		wantE = api.ErrForm
	}
	if w, e := links.Check(s); w != want || e != wantE {
		t.Fatalf("Check(%.300v): %v, %d, want %v, %d", fmt.Sprint(s), w, e, want, wantE)
	}
	if p, e := links.Load(s); (p != nil) != (wantE == api.OK) || e != wantE {
		t.Fatalf("Load(%.300v): %v, %d, want %d", fmt.Sprint(s), p != nil, e, wantE)
	}
}

// numbers returns pointers to all numbers of a state, each with how many numbers are in its range, beside -1.
func numbers(s api.LkState[string]) (all []*int, counts []int) {
	add := func(l []int, count int) {
		for i := range l {
			all, counts = append(all, &l[i]), append(counts, count)
		}
	}
	add(s.List, len(s.First))
	add(s.Next, len(s.List))
	add(s.Prev, len(s.List))
	add(s.First, len(s.List))
	add(s.Last, len(s.List))
	return all, counts
}

// allStates goes through all states of a size with numbers from least to the greatest in their ranges and beyond more.
func allStates(slots, lists, least, beyond int, see func(s api.LkState[string])) {
	s := newModel(slots, lists).state()
	all, counts := numbers(s)
	for _, n := range all {
		*n = least
	}
	for {
		see(s)
		i := 0
		for i < len(all) && *all[i] == counts[i]-1+beyond {
			*all[i] = least
			i++
		}
		if i == len(all) {
			return
		}
		*all[i]++
	}
}

// P4.1: exactly the states of pools are right
func TestRightStates(t *testing.T) {
	for _, size := range [][2]int{{1, 1}, {1, 2}, {2, 1}, {1, 3}, {2, 2}, {3, 1}} {
		states := map[string]bool{}
		for _, m := range arrangements(size[0], size[1]) {
			m.values = make([]string, size[0])
			states[fmt.Sprint(m.state())] = true
		}
		right := 0
		allStates(size[0], size[1], -1, 0, func(s api.LkState[string]) {
			want := wrongIn(s)
			if want == (api.LkWrong{}) {
				right++
				if !states[fmt.Sprint(s)] {
					t.Fatalf("no pool has the state %v", s)
				}
			}
			if w, e := links.Check(s); w != want || (e == api.OK) != (want == api.LkWrong{}) {
				t.Fatalf("Check(%v): %v, %d, want %v", s, w, e, want)
			}
		})
		if right != len(states) {
			t.Errorf("%v: %d right states, want %d", size, right, len(states))
		}
	}
}

// P4.1: numbers in and out of their ranges, and which fault is the first
func TestWrongStates(t *testing.T) {
	for _, size := range [][2]int{{1, 1}, {1, 2}, {2, 1}} {
		allStates(size[0], size[1], -2, 1, func(s api.LkState[string]) { checkWrong(t, s, wrongIn(s)) })
	}
	allStates(2, 2, -2, 0, func(s api.LkState[string]) { checkWrong(t, s, wrongIn(s)) })
}

// P4.1: faults that are easily overlooked
func TestFaults(t *testing.T) {
	m := newModel(6, 3)
	for i, l := range [][]int{{0, 2, 1}, {}, {4, 3}} {
		for _, slot := range l {
			m.lists[i] = append(m.lists[i], slot)
			m.values[slot] = "x"
		}
	}
	for i, x := range []struct {
		change func(s api.LkState[string])
		want   api.LkWrong
	}{
		{func(s api.LkState[string]) {}, api.LkWrong{}},
		{func(s api.LkState[string]) { s.List[4] = 3 }, api.LkWrong{Where: api.LkSlot, Index: 4}},
		{func(s api.LkState[string]) { s.List[4] = -2 }, api.LkWrong{Where: api.LkSlot, Index: 4}},
		{func(s api.LkState[string]) { s.Next[1] = 6 }, api.LkWrong{Where: api.LkSlot, Index: 1}},
		{func(s api.LkState[string]) { s.Next[1] = -2 }, api.LkWrong{Where: api.LkSlot, Index: 1}},
		{func(s api.LkState[string]) { s.Prev[0] = 6 }, api.LkWrong{Where: api.LkSlot, Index: 0}},
		{func(s api.LkState[string]) { s.Prev[0] = -2 }, api.LkWrong{Where: api.LkSlot, Index: 0}},
		{func(s api.LkState[string]) { s.Prev[5] = 1 }, api.LkWrong{Where: api.LkSlot, Index: 5}},
		{func(s api.LkState[string]) { s.Next[5] = 1 }, api.LkWrong{Where: api.LkSlot, Index: 5}},
		{func(s api.LkState[string]) { s.List[2] = -1 }, api.LkWrong{Where: api.LkSlot, Index: 2}},
		// A slot that is not right comes before a list that is not.
		{func(s api.LkState[string]) { s.First[0], s.Next[5] = 3, 5 }, api.LkWrong{Where: api.LkSlot, Index: 5}},
		{func(s api.LkState[string]) { s.First[0], s.Last[2] = 3, 0 }, api.LkWrong{Where: api.LkList, Index: 0}},
		// A list that is not right comes before a slot that is not met.
		{func(s api.LkState[string]) { s.First[0], s.Last[0], s.Last[2] = -1, -1, 4 }, api.LkWrong{Where: api.LkList, Index: 2}},
		{func(s api.LkState[string]) { s.First[0], s.Last[0] = -1, -1 }, api.LkWrong{Where: api.LkSlot, Index: 0}},
		{func(s api.LkState[string]) { s.First[2], s.Last[2] = -1, -1 }, api.LkWrong{Where: api.LkSlot, Index: 3}},
		{func(s api.LkState[string]) { s.First[0], s.Prev[2] = 2, -1 }, api.LkWrong{Where: api.LkSlot, Index: 0}},
		// The last slots of a list are left out.
		{func(s api.LkState[string]) { s.Next[2], s.Last[0] = -1, 2 }, api.LkWrong{Where: api.LkSlot, Index: 1}},
		// A slot of its own, which no list has.
		{func(s api.LkState[string]) { s.List[5] = 1 }, api.LkWrong{Where: api.LkSlot, Index: 5}},
		{func(s api.LkState[string]) { s.List[5], s.Next[5], s.Prev[5] = 1, 5, 5 }, api.LkWrong{Where: api.LkSlot, Index: 5}},
		// Lists that run in circles, with and without their first slot.
		{func(s api.LkState[string]) { s.Next[1] = 0 }, api.LkWrong{Where: api.LkList, Index: 0}},
		{func(s api.LkState[string]) { s.Next[1], s.Prev[0] = 0, 1 }, api.LkWrong{Where: api.LkList, Index: 0}},
		{func(s api.LkState[string]) { s.Next[1], s.Prev[2] = 2, 1 }, api.LkWrong{Where: api.LkList, Index: 0}},
		{func(s api.LkState[string]) { s.Next[1] = 1 }, api.LkWrong{Where: api.LkList, Index: 0}},
		// From one list into another.
		{func(s api.LkState[string]) { s.Next[1], s.Prev[4], s.Last[0] = 4, 1, 3 }, api.LkWrong{Where: api.LkList, Index: 0}},
		// Ends that are none, or out of their range.
		{func(s api.LkState[string]) { s.First[1] = 0 }, api.LkWrong{Where: api.LkList, Index: 1}},
		{func(s api.LkState[string]) { s.First[1] = 5 }, api.LkWrong{Where: api.LkList, Index: 1}},
		{func(s api.LkState[string]) { s.Last[1] = 5 }, api.LkWrong{Where: api.LkList, Index: 1}},
		{func(s api.LkState[string]) { s.First[1] = 6 }, api.LkWrong{Where: api.LkList, Index: 1}},
		{func(s api.LkState[string]) { s.First[1] = -2 }, api.LkWrong{Where: api.LkList, Index: 1}},
		{func(s api.LkState[string]) { s.Last[1] = -2 }, api.LkWrong{Where: api.LkList, Index: 1}},
		{func(s api.LkState[string]) { s.Last[0] = 6 }, api.LkWrong{Where: api.LkList, Index: 0}},
	} {
		s := m.state()
		x.change(s)
		if w := wrongIn(s); w != x.want {
			t.Fatalf("%d: the reference says %v, want %v", i, w, x.want)
		}
		checkWrong(t, s, x.want)
	}
}

// P4.1: the lengths come first
func TestSizesOfStates(t *testing.T) {
	checkWrong(t, api.LkState[string]{}, api.LkWrong{Where: api.LkSizes})
	for _, size := range [][2]int{{1, 1}, {2, 2}, {2000, 64}} {
		for i := range 6 {
			for _, by := range []int{-1, 1} {
				s := newModel(size[0], size[1]).state()
				s.List[0] = -2 // a fault that is found later
				if i == 0 {
					s.Values = make([]string, len(s.Values)+by)
				} else {
					l := []*[]int{&s.List, &s.Next, &s.Prev, &s.First, &s.Last}[i-1]
					*l = make([]int, len(*l)+by)
				}
				checkWrong(t, s, api.LkWrong{Where: api.LkSizes})
			}
		}
	}
	for _, x := range []struct {
		slots, lists int
		want         api.LkWrong
	}{
		{0, 0, api.LkWrong{Where: api.LkSizes}},
		{0, 1, api.LkWrong{Where: api.LkSizes}},
		{1, 0, api.LkWrong{Where: api.LkSizes}},
		{1, 1, api.LkWrong{}},
		{2000, 64, api.LkWrong{}},
		{2001, 64, api.LkWrong{Where: api.LkSizes}},
		{2000, 65, api.LkWrong{Where: api.LkSizes}},
		{1 << 20, 1 << 20, api.LkWrong{Where: api.LkSizes}},
	} {
		nones := func(n int) []int { return slices.Repeat([]int{-1}, n) }
		s := api.LkState[string]{
			Values: make([]string, x.slots), List: nones(x.slots), Next: nones(x.slots), Prev: nones(x.slots),
			First: nones(x.lists), Last: nones(x.lists),
		}
		checkWrong(t, s, x.want)
	}
}

// P4.7: another number makes a right state wrong
func TestOtherNumbers(t *testing.T) {
	r := rand.New(rand.NewSource(20))
	all := append(small(), randomModel(r, 9, 4), randomModel(r, 12, 2), randomModel(r, 30, 64))
	for _, m := range all {
		s := m.state()
		places, counts := numbers(s)
		for i, n := range places {
			was := *n
			for other := -1; other < counts[i]; other++ {
				if other == was {
					continue
				}
				*n = other
				w, e := links.Check(s)
				if e != api.ErrForm || w != wrongIn(s) {
					t.Fatalf("Check(%v): %v, %d, want %v", s, w, e, wrongIn(s))
				}
			}
			for _, other := range append([]int{counts[i]}, extremes...) {
				if other != was {
					*n = other
					checkWrong(t, s, wrongIn(s))
				}
			}
			*n = was
		}
	}
}

// randomModel returns what a pool can be.
func randomModel(r *rand.Rand, slots, lists int) *model {
	m := newModel(slots, lists)
	for slot, list := range r.Perm(slots) {
		if r.Intn(4) > 0 {
			list %= lists
			m.lists[list] = slices.Insert(m.lists[list], r.Intn(len(m.lists[list])+1), slot)
			m.values[slot] = fmt.Sprint("r", r.Intn(1000))
		}
	}
	return m
}
