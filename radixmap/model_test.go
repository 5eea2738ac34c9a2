package radixmap_test

import (
	"fmt"
	"maps"
	"math"
	"math/rand"
	"reflect"
	"slices"
	"testing"

	"polder/api"
	"polder/radixmap"
)

// extremes are numbers that are those of no page, node, owner or level.
var extremes = []int{-2, -3, -8, -64, -1024, 4096, 1 << 20, 1 << 32, 1<<32 + 1, 1 << 62, math.MaxInt - 1, math.MaxInt, math.MinInt, math.MinInt + 1, math.MinInt + 64}

// calls is what maps and models have in common.
type calls interface {
	Set(from, to int, d api.RmDesc) api.Errno
	Clear(from, to int) api.Errno
	Get(page int) (api.RmDesc, api.Errno)
	Nodes() int
	Runs() []api.RmRun
	Owned(owner int) ([]int, api.Errno)
	Save() api.RmState
}

// group is the pages of a middle node (64) or of a leaf (8).
type group struct{ pages, first int }

// groupsOf returns the groups of a page, that of its middle node first.
func groupsOf(page int) []group {
	return []group{{64, page / 64 * 64}, {8, page / 8 * 8}}
}

// model is a map that keeps the descriptions by their pages, and the numbers of nodes by their groups.
type model struct {
	most    int
	descs   map[int]api.RmDesc
	numbers map[group]int
}

func newModel(most int) *model {
	return &model{most, map[int]api.RmDesc{}, map[group]int{}}
}

func (m *model) clone() *model {
	return &model{m.most, maps.Clone(m.descs), maps.Clone(m.numbers)}
}

// leastFree returns the least number from 1 on that no node has.
func (m *model) leastFree() int {
	taken := map[int]bool{}
	for _, number := range m.numbers {
		taken[number] = true
	}
	n := 1
	for taken[n] {
		n++
	}
	return n
}

func arePages(from, to int) bool {
	return 0 <= from && from <= to && to <= 1024
}

// isDesc reports whether the numbers of d are in their ranges.
func isDesc(d api.RmDesc) bool {
	return d.Owner >= 0 && d.Owner <= 4095 && d.State >= 0 && d.State <= 15 && d.Stamp >= 0 && d.Stamp <= 1000000000000
}

func (m *model) Set(from, to int, d api.RmDesc) api.Errno {
	if !arePages(from, to) {
		return api.ErrRange
	}
	if !isDesc(d) {
		return api.ErrArg
	}
	next := m.clone()
	for page := from; page < to; page++ {
		next.descs[page] = d
		for _, g := range groupsOf(page) {
			if _, is := next.numbers[g]; !is {
				next.numbers[g] = next.leastFree()
			}
		}
	}
	if next.Nodes() > m.most {
		return api.ErrFull
	}
	*m = *next
	return api.OK
}

func (m *model) Clear(from, to int) api.Errno {
	if !arePages(from, to) {
		return api.ErrRange
	}
	for page := from; page < to; page++ {
		delete(m.descs, page)
	}
	maps.DeleteFunc(m.numbers, func(g group, _ int) bool { return !m.has(g) })
	return api.OK
}

// has reports whether some page of g has a description.
func (m *model) has(g group) bool {
	for page := g.first; page < g.first+g.pages; page++ {
		if _, is := m.descs[page]; is {
			return true
		}
	}
	return false
}

func (m *model) Get(page int) (api.RmDesc, api.Errno) {
	if page < 0 || page > 1023 {
		return api.RmDesc{}, api.ErrRange
	}
	d, is := m.descs[page]
	if !is {
		return api.RmDesc{}, api.ErrNone
	}
	return d, api.OK
}

func (m *model) Nodes() int { return 1 + len(m.numbers) }

// same reports whether two pages have the same description, or none.
func (m *model) same(a, b int) bool {
	x, isX := m.descs[a]
	y, isY := m.descs[b]
	return isX == isY && x == y
}

func (m *model) Runs() []api.RmRun {
	var l []api.RmRun
	for from := 0; from < 1024; {
		to := from + 1
		for to < 1024 && m.same(from, to) {
			to++
		}
		if d, is := m.descs[from]; is {
			l = append(l, api.RmRun{From: from, To: to, Desc: d})
		}
		from = to
	}
	return l
}

func (m *model) Owned(owner int) ([]int, api.Errno) {
	if owner < 0 || owner > 4095 {
		return nil, api.ErrRange
	}
	var l []int
	for page, d := range m.descs {
		if d.Owner == owner {
			l = append(l, page)
		}
	}
	slices.Sort(l)
	return l, api.OK
}

// pages returns the pages that have a description, ascending.
func (m *model) pages() []int {
	return slices.Sorted(maps.Keys(m.descs))
}

// packed returns the packed description d.
func packed(d api.RmDesc) uint64 {
	x := 1 + 2*uint64(d.Owner) + 8192*uint64(d.State) + 131072*uint64(d.Stamp)
	if d.Huge {
		x += 144115188075855872
	}
	return x
}

func (m *model) Save() api.RmState {
	s := api.RmState{Most: m.most, Nodes: make([]api.RmNode, m.most)}
	for i := range s.Nodes {
		s.Nodes[i].Level = -1
	}
	s.Nodes[0] = api.RmNode{Level: 0, Kids: make([]int, 16)}
	for g, number := range m.numbers {
		if g.pages == 64 {
			s.Nodes[number] = api.RmNode{Level: 1, Kids: make([]int, 8)}
			s.Nodes[0].Kids[g.first/64] = number
		} else {
			s.Nodes[number] = api.RmNode{Level: 2, Words: make([]uint64, 8)}
		}
	}
	for page, d := range m.descs {
		g := groupsOf(page)
		middle, leaf := m.numbers[g[0]], m.numbers[g[1]]
		s.Nodes[middle].Kids[(page-g[0].first)/8] = leaf
		s.Nodes[leaf].Words[page-g[1].first] = packed(d)
	}
	return s
}

// start returns a new map.
func start(t *testing.T, most int) *radixmap.Map {
	t.Helper()
	m, e := radixmap.New(most)
	if m == nil || e != api.OK {
		t.Fatalf("New(%d): %v, %d", most, m != nil, e)
	}
	return m
}

// load returns a map with the state s.
func load(t *testing.T, s api.RmState) *radixmap.Map {
	t.Helper()
	m, e := radixmap.Load(s)
	if m == nil || e != api.OK {
		t.Fatalf("Load(%v): %v, %d", s, m != nil, e)
	}
	return m
}

// check compares what was returned with what should be.
func check(t *testing.T, got, want any, what ...any) {
	t.Helper()
	if !reflect.DeepEqual(got, want) {
		t.Fatalf("%s: %v, want %v", fmt.Sprint(what...), got, want)
	}
}

// plain returns a copy of s with nil for lists without elements.
func plain(s api.RmState) api.RmState {
	s.Nodes = append([]api.RmNode(nil), s.Nodes...)
	for i := range s.Nodes {
		s.Nodes[i].Kids = append([]int(nil), s.Nodes[i].Kids...)
		s.Nodes[i].Words = append([]uint64(nil), s.Nodes[i].Words...)
	}
	return s
}

func equalStates(a, b api.RmState) bool {
	return reflect.DeepEqual(plain(a), plain(b))
}

// checkState compares the state of m with what it should be.
func checkState(t *testing.T, m *radixmap.Map, want api.RmState, what ...any) {
	t.Helper()
	if got := m.Save(); !equalStates(got, want) {
		t.Fatalf("%s: the state is %v, want %v", fmt.Sprint(what...), plain(got), plain(want))
	}
}

// answer is what a call returned.
type answer struct {
	value any
	e     api.Errno
}

func of[T any](v T, e api.Errno) answer { return answer{v, e} }

// listed is an answer with a list, which is nil if it is empty.
func listed[T any](l []T, e api.Errno) answer { return answer{append([]T(nil), l...), e} }

// action is a call with its arguments.
type action struct {
	name     string
	from, to int
	desc     api.RmDesc
}

// names are those of all actions.
var names = []string{"Set", "Clear", "Get", "Nodes", "Runs", "Owned"}

// on makes the call.
func (a action) on(m calls) answer {
	switch a.name {
	case "Set":
		return of(0, m.Set(a.from, a.to, a.desc))
	case "Clear":
		return of(0, m.Clear(a.from, a.to))
	case "Get":
		return of(m.Get(a.from))
	case "Nodes":
		return of(m.Nodes(), api.OK)
	case "Runs":
		return listed(m.Runs(), api.OK)
	case "Owned":
		return listed(m.Owned(a.desc.Owner))
	}
	panic(a.name)
}

// five is the description D of the document's examples.
func five() api.RmDesc { return api.RmDesc{Owner: 5, State: 1, Stamp: 3} }

// descs are descriptions of which some differ in one part alone.
var descs = []api.RmDesc{
	{}, {Owner: 1}, {State: 1}, {Stamp: 1}, {Huge: true}, {Owner: 5, State: 1, Stamp: 3}, {Owner: 5, State: 1, Stamp: 3, Huge: true},
	{Owner: 4095, State: 15, Stamp: 1000000000000, Huge: true}, {Owner: 4095}, {State: 15}, {Stamp: 1000000000000},
}

// wrongDescs are descriptions with a number out of its range.
var wrongDescs = []api.RmDesc{{Owner: -1}, {Owner: 4096}, {State: -1}, {State: 16}, {Stamp: -1}, {Stamp: 1000000000001}, {Owner: 5, State: 16, Stamp: 3}, {Owner: 9999, State: 99, Stamp: -9}}

// randomAction returns a call, mostly one that is possible, to the first pages or the last ones.
func randomAction(r *rand.Rand, pages int) action {
	a := action{name: []string{"Set", "Set", "Set", "Clear", "Clear", "Get", "Nodes", "Runs", "Owned"}[r.Intn(9)], from: r.Intn(pages), desc: descs[r.Intn(len(descs))]}
	if r.Intn(4) == 0 {
		a.from = 1023 - a.from
	}
	a.to = min(a.from+[]int{0, 1, 2, 8, 20, 150}[r.Intn(6)], 1024)
	if r.Intn(3) == 0 {
		a.to = min(a.from/8*8+8*(1+r.Intn(4)), 1024)
	}
	switch r.Intn(20) {
	case 0:
		a.to = a.from - 1
	case 1:
		a.desc = wrongDescs[r.Intn(len(wrongDescs))]
	case 2:
		a.to = extremes[r.Intn(len(extremes))]
	case 3:
		a.from = extremes[r.Intn(len(extremes))]
	case 4:
		a.from, a.to = 0, 1024
	}
	return a
}

// randomModel returns a model after some calls.
func randomModel(r *rand.Rand, most, pages int) *model {
	m := newModel(most)
	for range r.Intn(40) {
		randomAction(r, pages).on(m)
	}
	return m
}

// randomMost returns how many nodes a map may have, often few.
func randomMost(r *rand.Rand) int {
	return []int{1, 2, 3, 4, 5, 6, 8, 12, 20, 40, 144, 145}[r.Intn(12)]
}
