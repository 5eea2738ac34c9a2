package links_test

import (
	"fmt"
	"reflect"
	"slices"
	"testing"

	"polder/api"
	"polder/links"
)

// The document's example
func TestExample(t *testing.T) {
	p, e := links.New[int](3, 2)
	if e != api.OK {
		t.Fatalf("New: %d", e)
	}
	checkAnswer(t, of(p.Push(0, 7, false)), answer{0, api.OK}, "Push")
	checkAnswer(t, of(p.Push(0, 8, false)), answer{1, api.OK}, "Push")
	checkAnswer(t, of(p.After(0, 9)), answer{2, api.OK}, "After")
	checkAnswer(t, of(p.Push(1, 5, false)), answer{0, api.ErrFull}, "Push")
	var all [][2]int
	for slot, v := range p.All(0, false) {
		all = append(all, [2]int{slot, v})
	}
	if !slices.Equal(all, [][2]int{{0, 7}, {2, 9}, {1, 8}}) {
		t.Errorf("All: %v", all)
	}
	checkAnswer(t, of(p.Take(0)), answer{7, api.OK}, "Take")
	checkAnswer(t, of(p.Push(1, 4, true)), answer{0, api.OK}, "Push")
	want := api.LkState[int]{
		Values: []int{4, 8, 9},
		List:   []int{1, 0, 0},
		Next:   []int{-1, -1, 1},
		Prev:   []int{-1, 2, -1},
		First:  []int{2, 0},
		Last:   []int{1, 0},
	}
	if s := p.Save(); !reflect.DeepEqual(s, want) {
		t.Errorf("Save: %v", s)
	}
	checkAnswer(t, of(p.Step(2, true)), answer{0, api.ErrDown}, "Step")
	checkAnswer(t, of(p.Where(0)), answer{1, api.OK}, "Where")
	checkAnswer(t, of(p.Len(2)), answer{0, api.ErrRange}, "Len")
}

// P4.1: a new pool has free slots and empty lists
func TestNew(t *testing.T) {
	for _, size := range [][2]int{{1, 1}, {1, 64}, {2000, 1}, {2000, 64}, {7, 3}, {64, 64}, {65, 2}} {
		p, m := pool(t, size[0], size[1]), newModel(size[0], size[1])
		checkState(t, p, m, fmt.Sprint("New", size))
		for slot := range size[0] {
			checkAsks(t, p, m, slot, slot)
		}
	}
}

// P4.1: sizes that no pool has
func TestNewOfNoSize(t *testing.T) {
	var sizes [][2]int
	for _, n := range append([]int{0, 2001}, extremes...) {
		if n != 2000 {
			sizes = append(sizes, [2]int{n, 1}, [2]int{n, 64}, [2]int{n, 0})
		}
	}
	for _, n := range append([]int{0, 65, 66, 128}, extremes...) {
		sizes = append(sizes, [2]int{1, n}, [2]int{2000, n}, [2]int{2001, n})
	}
	for _, size := range sizes {
		if p, e := links.New[string](size[0], size[1]); p != nil || e != api.ErrRange {
			t.Errorf("New%v: %v, %d", size, p, e)
		}
	}
}

// P4.1, P4.6, P4.7: a pool of a state has this state, and does what it says
func TestLoadAndSave(t *testing.T) {
	for _, m := range small() {
		p := load(t, m)
		checkState(t, p, m, "Load")
		for slot := -1; slot <= len(m.values); slot++ {
			for list := -1; list <= len(m.lists); list++ {
				checkAsks(t, p, m, slot, list)
			}
		}
		again, e := links.Load(p.Save())
		if e != api.OK {
			t.Fatalf("Load of Save: %d", e)
		}
		checkState(t, again, m, "Load of Save")
	}
}

// P4.1: free slots have the zero value, whatever the state says
func TestValuesOfFreeSlots(t *testing.T) {
	for _, m := range small() {
		s := m.state()
		for slot, list := range s.List {
			if list < 0 {
				s.Values[slot] = "left over"
			}
		}
		if w, e := links.Check(s); w != (api.LkWrong{}) || e != api.OK {
			t.Fatalf("Check(%v): %v, %d", s, w, e)
		}
		p, e := links.Load(s)
		if e != api.OK {
			t.Fatalf("Load(%v): %d", s, e)
		}
		checkState(t, p, m, "Load")
	}
}

// P4.6: a slot that is free again has the zero value
func TestValuesOfSlotsTaken(t *testing.T) {
	p, m := pool(t, 3, 1), newModel(3, 1)
	for _, v := range []string{"a", "b", "c"} {
		p.Push(0, v, false)
		m.Push(0, v, false)
	}
	for _, slot := range []int{1, 2, 0} {
		checkAnswer(t, of(p.Take(slot)), of(m.Take(slot)), "Take", slot)
		checkState(t, p, m, "Take")
	}
	checkState(t, p, newModel(3, 1), "all are taken")
}
