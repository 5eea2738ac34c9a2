package links_test

import (
	"fmt"
	"math"
	"reflect"
	"slices"
	"testing"

	"polder/api"
	"polder/links"
)

// extremes are numbers that no slot and no list has, and no number of slots or lists but 2000.
var extremes = []int{-1, -2, 2000, math.MinInt, math.MaxInt, -1 << 31, 1 << 31}

// model is what a pool is by its definition: the slots of each list, in order, and the values of all slots.
type model struct {
	lists  [][]int
	values []string
}

func newModel(slots, lists int) *model {
	return &model{make([][]int, lists), make([]string, slots)}
}

func (m *model) clone() *model {
	c := &model{values: slices.Clone(m.values)}
	for _, l := range m.lists {
		c.lists = append(c.lists, slices.Clone(l))
	}
	return c
}

// find returns the list and the place of a slot, or -1 and -1 if it is free, or none.
func (m *model) find(slot int) (list, at int) {
	for i, l := range m.lists {
		if at := slices.Index(l, slot); at >= 0 {
			return i, at
		}
	}
	return -1, -1
}

func (m *model) isList(list int) bool { return list >= 0 && list < len(m.lists) }

// at returns the slot at a place of a list, or -1.
func (m *model) at(list, place int) int {
	if place < 0 || place >= len(m.lists[list]) {
		return -1
	}
	return m.lists[list][place]
}

// state returns the state that a pool with these lists has.
func (m *model) state() api.LkState[string] {
	s := api.LkState[string]{Values: slices.Clone(m.values)}
	for slot := range m.values {
		list, at := m.find(slot)
		s.List = append(s.List, list)
		if list < 0 {
			s.Next, s.Prev = append(s.Next, -1), append(s.Prev, -1)
			continue
		}
		s.Next, s.Prev = append(s.Next, m.at(list, at+1)), append(s.Prev, m.at(list, at-1))
	}
	for i, l := range m.lists {
		s.First, s.Last = append(s.First, m.at(i, 0)), append(s.Last, m.at(i, len(l)-1))
	}
	return s
}

func (m *model) insert(list, at int, v string) (int, api.Errno) {
	for slot := range m.values {
		if l, _ := m.find(slot); l < 0 {
			m.lists[list] = slices.Insert(m.lists[list], at, slot)
			m.values[slot] = v
			return slot, api.OK
		}
	}
	return 0, api.ErrFull
}

func (m *model) Push(list int, v string, front bool) (int, api.Errno) {
	if !m.isList(list) {
		return 0, api.ErrRange
	}
	if front {
		return m.insert(list, 0, v)
	}
	return m.insert(list, len(m.lists[list]), v)
}

func (m *model) After(slot int, v string) (int, api.Errno) {
	list, at := m.find(slot)
	if list < 0 {
		return 0, api.ErrNone
	}
	return m.insert(list, at+1, v)
}

func (m *model) Take(slot int) (string, api.Errno) {
	list, at := m.find(slot)
	if list < 0 {
		return "", api.ErrNone
	}
	v := m.values[slot]
	m.lists[list] = slices.Delete(m.lists[list], at, at+1)
	m.values[slot] = ""
	return v, api.OK
}

func (m *model) Move(slot, list int, front bool) api.Errno {
	from, at := m.find(slot)
	if from < 0 {
		return api.ErrNone
	}
	if !m.isList(list) {
		return api.ErrRange
	}
	m.lists[from] = slices.Delete(m.lists[from], at, at+1)
	if front {
		m.lists[list] = slices.Insert(m.lists[list], 0, slot)
	} else {
		m.lists[list] = append(m.lists[list], slot)
	}
	return api.OK
}

func (m *model) Put(slot int, v string) api.Errno {
	if list, _ := m.find(slot); list < 0 {
		return api.ErrNone
	}
	m.values[slot] = v
	return api.OK
}

func (m *model) Get(slot int) (string, api.Errno) {
	if list, _ := m.find(slot); list < 0 {
		return "", api.ErrNone
	}
	return m.values[slot], api.OK
}

func (m *model) Where(slot int) (int, api.Errno) {
	list, _ := m.find(slot)
	if list < 0 {
		return 0, api.ErrNone
	}
	return list, api.OK
}

func (m *model) End(list int, front bool) (int, api.Errno) {
	if !m.isList(list) {
		return 0, api.ErrRange
	}
	l := m.lists[list]
	if len(l) == 0 {
		return 0, api.ErrNone
	}
	if front {
		return l[0], api.OK
	}
	return l[len(l)-1], api.OK
}

func (m *model) Step(slot int, back bool) (int, api.Errno) {
	list, at := m.find(slot)
	if list < 0 {
		return 0, api.ErrNone
	}
	if back {
		at--
	} else {
		at++
	}
	if next := m.at(list, at); next >= 0 {
		return next, api.OK
	}
	return 0, api.ErrDown
}

func (m *model) Len(list int) (int, api.Errno) {
	if !m.isList(list) {
		return 0, api.ErrRange
	}
	return len(m.lists[list]), api.OK
}

func (m *model) all(list int, back bool) []met {
	var l []met
	if m.isList(list) {
		for _, slot := range m.lists[list] {
			l = append(l, met{slot, m.values[slot]})
		}
	}
	if back {
		slices.Reverse(l)
	}
	return l
}

// met is a slot and its value, as All yields them.
type met struct {
	slot  int
	value string
}

// walk returns what All yields.
func walk(p *links.Pool[string], list int, back bool) []met {
	var l []met
	for slot, v := range p.All(list, back) {
		l = append(l, met{slot, v})
	}
	return l
}

// pool returns a new pool of texts.
func pool(t *testing.T, slots, lists int) *links.Pool[string] {
	t.Helper()
	p, e := links.New[string](slots, lists)
	if p == nil || e != api.OK {
		t.Fatalf("New(%d, %d): %v, %d", slots, lists, p, e)
	}
	return p
}

// load returns a pool with the lists of m.
func load(t *testing.T, m *model) *links.Pool[string] {
	t.Helper()
	p, e := links.Load(m.state())
	if p == nil || e != api.OK {
		t.Fatalf("Load(%v): %v, %d", m.state(), p, e)
	}
	return p
}

// checkState compares the whole state of p with the lists of m.
func checkState(t *testing.T, p *links.Pool[string], m *model, what string) {
	t.Helper()
	if s := p.Save(); !reflect.DeepEqual(s, m.state()) {
		t.Fatalf("%s: the state is %v, want %v", what, s, m.state())
	}
}

// answer is what a call returned.
type answer struct {
	value any
	e     api.Errno
}

func of[T any](v T, e api.Errno) answer { return answer{v, e} }

// checkAnswer compares what a pool returned with what it should.
func checkAnswer(t *testing.T, got, want answer, what string, arguments ...any) {
	t.Helper()
	if got != want {
		t.Fatalf("%s%v: %v, want %v", what, arguments, got, want)
	}
}

// checkAsks compares what p says about a slot and a list, whether there are such or not, with m.
func checkAsks(t *testing.T, p *links.Pool[string], m *model, slot, list int) {
	t.Helper()
	checkAnswer(t, of(p.Get(slot)), of(m.Get(slot)), "Get", slot)
	checkAnswer(t, of(p.Where(slot)), of(m.Where(slot)), "Where", slot)
	checkAnswer(t, of(p.Len(list)), of(m.Len(list)), "Len", list)
	for _, flag := range []bool{false, true} {
		checkAnswer(t, of(p.Step(slot, flag)), of(m.Step(slot, flag)), "Step", slot, flag)
		checkAnswer(t, of(p.End(list, flag)), of(m.End(list, flag)), "End", list, flag)
		if l := walk(p, list, flag); !slices.Equal(l, m.all(list, flag)) {
			t.Fatalf("All(%d, %v): %v, want %v", list, flag, l, m.all(list, flag))
		}
	}
}

// arrangements returns all that pools with so many slots and lists can be, each slot in a list with a value of its own.
func arrangements(slots, lists int) []*model {
	all := []*model{newModel(slots, lists)}
	for slot := range slots {
		var more []*model
		for _, m := range all {
			for list, l := range m.lists {
				for at := range len(l) + 1 {
					c := m.clone()
					c.lists[list] = slices.Insert(c.lists[list], at, slot)
					c.values[slot] = fmt.Sprint("v", slot)
					more = append(more, c)
				}
			}
		}
		all = append(all, more...)
	}
	return all
}

// small are the arrangements of pools small enough to try everything.
func small() []*model {
	var all []*model
	for _, size := range [][2]int{{1, 1}, {1, 2}, {2, 1}, {3, 1}, {2, 2}, {3, 2}, {4, 1}, {4, 2}, {3, 3}} {
		all = append(all, arrangements(size[0], size[1])...)
	}
	return all
}
