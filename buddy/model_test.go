package buddy_test

import (
	"fmt"
	"math"
	"math/rand"
	"reflect"
	"slices"
	"testing"

	"polder/api"
	"polder/buddy"
)

// extremes are numbers that are those of no page and of no order.
var extremes = []int{-1, -2, -10, -63, -64, -1024, 11, 31, 32, 62, 63, 64, 65, 1024, 1025, 2048, 1 << 20, 1 << 32, 1 << 62, math.MaxInt - 1, math.MaxInt, math.MinInt, math.MinInt + 1, math.MinInt + 1024}

// calls is what allocators and models have in common.
type calls interface {
	Alloc(order int) (int, api.Errno)
	AllocAt(page, order int) api.Errno
	Free(page, order int) api.Errno
	Blocks() ([]api.BuBlock, api.Errno)
	Largest() (int, api.Errno)
	Room(order int) (int, api.Errno)
	Owner(page int) (api.BuBlock, api.Errno)
	Save() api.BuState
}

// sizes are the numbers of pages of blocks, by their orders.
var sizes = []int{1, 2, 4, 8, 16, 32, 64, 128, 256, 512, 1024}

// model is an allocator that keeps for each page the given block that has it. What is free it finds by the document's definitions.
type model struct {
	order int
	given []*api.BuBlock // by pages; nil: the page is free
}

func newModel(order int) *model {
	return &model{order, make([]*api.BuBlock, sizes[order])}
}

func (m *model) clone() *model {
	return &model{m.order, slices.Clone(m.given)}
}

// isBlock reports whether x is a block of the range.
func (m *model) isBlock(x api.BuBlock) bool {
	if x.Order < 0 || x.Order > m.order {
		return false
	}
	return x.Page >= 0 && x.Page%sizes[x.Order] == 0 && x.Page/sizes[x.Order] < sizes[m.order]/sizes[x.Order]
}

// isFree reports whether all pages of a block of the range are free.
func (m *model) isFree(x api.BuBlock) bool {
	for page := x.Page; page < x.Page+sizes[x.Order]; page++ {
		if m.given[page] != nil {
			return false
		}
	}
	return true
}

// all returns the blocks of an order in the range all of whose pages are free.
func (m *model) all(order int) []api.BuBlock {
	var l []api.BuBlock
	for page := 0; order <= m.order && page < sizes[m.order]; page += sizes[order] {
		if x := (api.BuBlock{Page: page, Order: order}); m.isFree(x) {
			l = append(l, x)
		}
	}
	return l
}

// isFreeBlock reports whether x, all of whose pages are free, is a free block.
func (m *model) isFreeBlock(x api.BuBlock) bool {
	if x.Order == m.order {
		return true
	}
	size := sizes[x.Order+1]
	return !m.isFree(api.BuBlock{Page: x.Page / size * size, Order: x.Order + 1})
}

// freeBlocks returns the free blocks, first those of lesser orders, then those at lesser pages.
func (m *model) freeBlocks() []api.BuBlock {
	var l []api.BuBlock
	for order := range sizes {
		for _, x := range m.all(order) {
			if m.isFreeBlock(x) {
				l = append(l, x)
			}
		}
	}
	return l
}

// put makes all pages of a block those of a given block, or free.
func (m *model) put(x api.BuBlock, given *api.BuBlock) {
	for page := x.Page; page < x.Page+sizes[x.Order]; page++ {
		m.given[page] = given
	}
}

func isOrder(order int) bool { return 0 <= order && order <= 10 }

func (m *model) Alloc(order int) (int, api.Errno) {
	if !isOrder(order) {
		return 0, api.ErrRange
	}
	for _, from := range m.freeBlocks() {
		if from.Order >= order {
			x := api.BuBlock{Page: from.Page, Order: order}
			m.put(x, &x)
			return x.Page, api.OK
		}
	}
	return 0, api.ErrFull
}

func (m *model) AllocAt(page, order int) api.Errno {
	x := api.BuBlock{Page: page, Order: order}
	if !m.isBlock(x) {
		return api.ErrRange
	}
	if !m.isFree(x) {
		return api.ErrTwice
	}
	m.put(x, &x)
	return api.OK
}

func (m *model) Free(page, order int) api.Errno {
	x := api.BuBlock{Page: page, Order: order}
	if !m.isBlock(x) {
		return api.ErrRange
	}
	if m.given[page] == nil || *m.given[page] != x {
		return api.ErrDown
	}
	m.put(x, nil)
	return api.OK
}

func (m *model) Blocks() ([]api.BuBlock, api.Errno) {
	l := m.freeBlocks()
	slices.SortFunc(l, func(a, b api.BuBlock) int { return a.Page - b.Page })
	return l, api.OK
}

func (m *model) Largest() (int, api.Errno) {
	for order := m.order; order >= 0; order-- {
		if len(m.all(order)) > 0 {
			return order, api.OK
		}
	}
	return 0, api.ErrNone
}

func (m *model) Room(order int) (int, api.Errno) {
	if !isOrder(order) {
		return 0, api.ErrRange
	}
	return len(m.all(order)), api.OK
}

func (m *model) Owner(page int) (api.BuBlock, api.Errno) {
	if page < 0 || page >= len(m.given) {
		return api.BuBlock{}, api.ErrRange
	}
	if m.given[page] == nil {
		return api.BuBlock{}, api.ErrNone
	}
	return *m.given[page], api.OK
}

func (m *model) Save() api.BuState {
	s := api.BuState{Order: m.order}
	for page, x := range m.given {
		if x != nil && x.Page == page {
			s.Given = append(s.Given, *x)
		}
	}
	return s
}

// start returns a new allocator.
func start(t *testing.T, order int) *buddy.Buddy {
	t.Helper()
	b, e := buddy.New(order)
	if b == nil || e != api.OK {
		t.Fatalf("New(%d): %v, %d", order, b != nil, e)
	}
	return b
}

// load returns an allocator with the state s.
func load(t *testing.T, s api.BuState) *buddy.Buddy {
	t.Helper()
	b, e := buddy.Load(s)
	if b == nil || e != api.OK {
		t.Fatalf("Load(%v): %v, %d", s, b != nil, e)
	}
	return b
}

// check compares what was returned with what should be.
func check(t *testing.T, got, want any, what ...any) {
	t.Helper()
	if !reflect.DeepEqual(got, want) {
		t.Fatalf("%s: %v, want %v", fmt.Sprint(what...), got, want)
	}
}

// plain returns a copy of s with nil for a list without elements.
func plain(s api.BuState) api.BuState {
	s.Given = append([]api.BuBlock(nil), s.Given...)
	return s
}

// checkState compares the state of b with what it should be.
func checkState(t *testing.T, b *buddy.Buddy, want api.BuState, what ...any) {
	t.Helper()
	check(t, plain(b.Save()), plain(want), append([]any{"the state: "}, what...)...)
}

// free returns the free blocks of b.
func free(t *testing.T, b *buddy.Buddy) []api.BuBlock {
	t.Helper()
	l, e := b.Blocks()
	check(t, e, api.OK, "Blocks")
	return append([]api.BuBlock(nil), l...)
}

// answer is what a call returned.
type answer struct {
	value any
	e     api.Errno
}

func of[T any](v T, e api.Errno) answer { return answer{v, e} }

// action is a call with its arguments.
type action struct {
	name        string
	page, order int
}

// names are those of all actions.
var names = []string{"Alloc", "AllocAt", "Free", "Blocks", "Largest", "Room", "Owner"}

// on makes the call.
func (a action) on(b calls) answer {
	switch a.name {
	case "Alloc":
		return of(b.Alloc(a.order))
	case "AllocAt":
		return of(0, b.AllocAt(a.page, a.order))
	case "Free":
		return of(0, b.Free(a.page, a.order))
	case "Blocks":
		l, e := b.Blocks()
		return of(append([]api.BuBlock(nil), l...), e)
	case "Largest":
		return of(b.Largest())
	case "Room":
		return of(b.Room(a.order))
	case "Owner":
		return of(b.Owner(a.page))
	}
	panic(a.name)
}

// actions returns the calls with all pages and orders of a range, and with those just beyond them.
func actions(order int) []action {
	orders, pages := []int{-1, 10, 11}, []int{-1}
	for k := range order + 2 {
		orders = append(orders, k)
	}
	for page := range sizes[order] + 2 {
		pages = append(pages, page)
	}
	l := []action{{name: "Blocks"}, {name: "Largest"}}
	for _, k := range orders {
		l = append(l, action{name: "Alloc", order: k}, action{name: "Room", order: k})
		for _, page := range pages {
			l = append(l, action{"AllocAt", page, k}, action{"Free", page, k})
		}
	}
	for _, page := range pages {
		l = append(l, action{name: "Owner", page: page})
	}
	return l
}

// states returns all sets of given blocks in a block.
func states(x api.BuBlock) [][]api.BuBlock {
	if x.Order == 0 {
		return [][]api.BuBlock{nil, {x}}
	}
	low, high := api.BuBlock{Page: x.Page, Order: x.Order - 1}, api.BuBlock{Page: x.Page + sizes[x.Order-1], Order: x.Order - 1}
	l := [][]api.BuBlock{{x}}
	for _, a := range states(low) {
		for _, b := range states(high) {
			l = append(l, slices.Concat(a, b))
		}
	}
	return l
}

// modelOf returns a model with some given blocks.
func modelOf(order int, given []api.BuBlock) *model {
	m := newModel(order)
	for _, x := range given {
		if m.AllocAt(x.Page, x.Order) != api.OK {
			panic(x)
		}
	}
	return m
}

// randomAction returns a call, mostly one that is possible, with lesser orders more often than with greater ones.
func randomAction(r *rand.Rand, m *model) action {
	order := r.Intn(r.Intn(m.order+1) + 1)
	a := action{names[r.Intn(len(names))], r.Intn(sizes[m.order]) / sizes[order] * sizes[order], order}
	if given := m.Save().Given; a.name == "Free" && len(given) > 0 {
		x := given[r.Intn(len(given))]
		a.page, a.order = x.Page, x.Order
	}
	switch r.Intn(30) {
	case 0:
		a.order = extremes[r.Intn(len(extremes))]
	case 1:
		a.page = extremes[r.Intn(len(extremes))]
	case 2:
		a.order++
	case 3:
		a.order--
	case 4:
		a.page++
	}
	return a
}

// randomModel returns a model after some calls.
func randomModel(r *rand.Rand, order int) *model {
	m := newModel(order)
	for range r.Intn(60) {
		randomAction(r, m).on(m)
	}
	return m
}
