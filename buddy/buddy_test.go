package buddy_test

import (
	"math/rand"
	"testing"

	"polder/api"
)

// The examples of the chapter
func TestExamples(t *testing.T) {
	b := start(t, 3)
	check(t, of(b.Alloc(1)), of(0, api.OK), "Alloc(1)")
	check(t, of(b.Alloc(0)), of(2, api.OK), "Alloc(0)")
	check(t, of(b.Alloc(1)), of(4, api.OK), "Alloc(1)")
	check(t, free(t, b), []api.BuBlock{{Page: 3, Order: 0}, {Page: 6, Order: 1}}, "Blocks")
	check(t, of(b.Alloc(2)), of(0, api.ErrFull), "Alloc(2)")
	check(t, of(b.Largest()), of(1, api.OK), "Largest")
	check(t, of(b.Room(0)), of(3, api.OK), "Room(0)")
	check(t, b.Free(0, 0), api.ErrDown, "Free(0, 0)")
	check(t, b.Free(0, 1), api.OK, "Free(0, 1)")
	check(t, of(b.Alloc(2)), of(0, api.ErrFull), "Alloc(2)")
	check(t, b.Free(2, 0), api.OK, "Free(2, 0)")
	check(t, of(b.Alloc(2)), of(0, api.OK), "Alloc(2)")
}

// P8.2 to P8.4: each call in each state of small ranges
func TestEachState(t *testing.T) {
	for order := range 4 {
		for _, given := range states(api.BuBlock{Order: order}) {
			m := modelOf(order, given)
			b := load(t, m.Save())
			checkState(t, b, m.Save(), "Load")
			for _, a := range actions(order) {
				checkAction(t, m, a)
			}
		}
	}
}

// checkAction compares what a call returns and changes with what it does to a model.
func checkAction(t *testing.T, m *model, a action) {
	t.Helper()
	b, want := load(t, m.Save()), m.clone()
	check(t, a.on(b), a.on(want), a, " after ", m.Save())
	checkState(t, b, want.Save(), a, " after ", m.Save())
	blocks := action{name: "Blocks"}
	check(t, blocks.on(b), blocks.on(want), a, " after ", m.Save(), ": Blocks")
}

// P8.2 to P8.4: random calls in ranges of all orders, one after the other
func TestRandomCalls(t *testing.T) {
	r := rand.New(rand.NewSource(1))
	seen := map[string]map[api.Errno]int{}
	for _, name := range names {
		seen[name] = map[api.Errno]int{}
	}
	for i := range 220 {
		m := newModel(i % 11)
		b := start(t, i%11)
		for range 150 {
			a := randomAction(r, m)
			want := a.on(m)
			seen[a.name][want.e]++
			check(t, a.on(b), want, a)
			checkState(t, b, m.Save(), a)
		}
		want, _ := m.Blocks()
		check(t, free(t, b), append([]api.BuBlock(nil), want...), "Blocks")
	}
	for name, errors := range map[string][]api.Errno{"Alloc": {api.OK, api.ErrRange, api.ErrFull}, "AllocAt": {api.OK, api.ErrRange, api.ErrTwice}, "Free": {api.OK, api.ErrRange, api.ErrDown}, "Blocks": {api.OK}, "Largest": {api.OK, api.ErrNone}, "Room": {api.OK, api.ErrRange}, "Owner": {api.OK, api.ErrRange, api.ErrNone}} {
		for _, e := range errors {
			if seen[name][e] < 100 {
				t.Errorf("%s returned the error %d only %d times", name, e, seen[name][e])
			}
		}
	}
}

// P8.2: of the free blocks, that with the least order is taken, of several that with the least page
func TestWhichBlockIsTaken(t *testing.T) {
	for _, c := range []struct {
		given       []api.BuBlock
		order, page int
		left        []api.BuBlock
	}{
		{nil, 4, 0, nil},
		{nil, 0, 0, []api.BuBlock{{Page: 1}, {Page: 2, Order: 1}, {Page: 4, Order: 2}, {Page: 8, Order: 3}}},
		{nil, 2, 0, []api.BuBlock{{Page: 4, Order: 2}, {Page: 8, Order: 3}}},
		{[]api.BuBlock{{Page: 15}}, 0, 14, []api.BuBlock{{Page: 0, Order: 3}, {Page: 8, Order: 2}, {Page: 12, Order: 1}}},
		{[]api.BuBlock{{Page: 15}}, 1, 12, []api.BuBlock{{Page: 0, Order: 3}, {Page: 8, Order: 2}, {Page: 14}}},
		{[]api.BuBlock{{Page: 15}}, 2, 8, []api.BuBlock{{Page: 0, Order: 3}, {Page: 12, Order: 1}, {Page: 14}}},
		{[]api.BuBlock{{Page: 15}}, 3, 0, []api.BuBlock{{Page: 8, Order: 2}, {Page: 12, Order: 1}, {Page: 14}}},
		{[]api.BuBlock{{Page: 13}, {Page: 14}}, 0, 12, []api.BuBlock{{Page: 0, Order: 3}, {Page: 8, Order: 2}, {Page: 15}}},
		{[]api.BuBlock{{Page: 13}, {Page: 14}}, 1, 8, []api.BuBlock{{Page: 0, Order: 3}, {Page: 10, Order: 1}, {Page: 12}, {Page: 15}}},
		{[]api.BuBlock{{Page: 4, Order: 1}, {Page: 10, Order: 1}}, 0, 6, []api.BuBlock{{Page: 0, Order: 2}, {Page: 7}, {Page: 8, Order: 1}, {Page: 12, Order: 2}}},
		{[]api.BuBlock{{Page: 4, Order: 1}, {Page: 10, Order: 1}}, 2, 0, []api.BuBlock{{Page: 6, Order: 1}, {Page: 8, Order: 1}, {Page: 12, Order: 2}}},
	} {
		b := load(t, api.BuState{Order: 4, Given: c.given})
		check(t, of(b.Alloc(c.order)), of(c.page, api.OK), "Alloc(", c.order, ") after ", c.given)
		check(t, free(t, b), c.left, "Blocks after Alloc(", c.order, ") after ", c.given)
	}
}

// P8.2: orders that no range has, and orders that this range alone does not have
func TestAllocErrors(t *testing.T) {
	for order := range 11 {
		b := start(t, order)
		for _, k := range extremes {
			check(t, of(b.Alloc(k)), of(0, api.ErrRange), "Alloc(", k, ") of the order ", order)
			check(t, of(b.Room(k)), of(0, api.ErrRange), "Room(", k, ") of the order ", order)
		}
		for k := order + 1; k < 11; k++ {
			check(t, of(b.Alloc(k)), of(0, api.ErrFull), "Alloc(", k, ") of the order ", order)
			check(t, of(b.Room(k)), of(0, api.OK), "Room(", k, ") of the order ", order)
		}
		checkState(t, b, api.BuState{Order: order}, "after errors")
		check(t, of(b.Alloc(order)), of(0, api.OK), "Alloc(", order, ")")
		check(t, of(b.Alloc(0)), of(0, api.ErrFull), "Alloc(0) without free pages")
		check(t, of(b.Alloc(11)), of(0, api.ErrRange), "Alloc(11) without free pages")
		check(t, of(b.Largest()), of(0, api.ErrNone), "Largest without free pages")
	}
}

// P8.2, P8.3: each block of each range, alone
func TestEachBlock(t *testing.T) {
	for order := range 11 {
		for k := range order + 1 {
			for page := 0; page < sizes[order]; page += sizes[k] {
				b := start(t, order)
				x := api.BuBlock{Page: page, Order: k}
				check(t, b.AllocAt(page, k), api.OK, "AllocAt of ", x)
				checkState(t, b, api.BuState{Order: order, Given: []api.BuBlock{x}}, "AllocAt of ", x)
				check(t, len(free(t, b)), order-k, "how many free blocks are left by ", x)
				check(t, of(b.Owner(page)), of(x, api.OK), "the first page of ", x)
				check(t, of(b.Owner(page+sizes[k]-1)), of(x, api.OK), "the last page of ", x)
				check(t, b.AllocAt(page, k), api.ErrTwice, "AllocAt of ", x, " again")
				check(t, b.Free(page, k), api.OK, "Free of ", x)
				check(t, b.Free(page, k), api.ErrDown, "Free of ", x, " again")
				check(t, free(t, b), []api.BuBlock{{Order: order}}, "Blocks after Free of ", x)
			}
		}
	}
}

// P8.2, P8.3: a block that is not in the range has ErrRange, whether its pages are free or not
func TestBlocksOutOfRange(t *testing.T) {
	for order := range 11 {
		for _, full := range []bool{false, true} {
			b := start(t, order)
			if full {
				b.Alloc(order)
			}
			before := b.Save()
			for _, x := range outOfRange(order) {
				check(t, b.AllocAt(x.Page, x.Order), api.ErrRange, "AllocAt of ", x, ", order ", order)
				check(t, b.Free(x.Page, x.Order), api.ErrRange, "Free of ", x, ", order ", order)
			}
			for _, page := range append([]int{-1, sizes[order], sizes[order] + 1}, extremes...) {
				if page < 0 || page >= sizes[order] {
					check(t, of(b.Owner(page)), of(api.BuBlock{}, api.ErrRange), "Owner of ", page, ", order ", order)
				}
			}
			checkState(t, b, before, "after errors")
		}
	}
}

// outOfRange returns blocks that are not in a range of the order.
func outOfRange(order int) []api.BuBlock {
	l := []api.BuBlock{{Page: 0, Order: order + 1}, {Page: sizes[order], Order: order}, {Page: sizes[order], Order: 0}, {Page: -sizes[order], Order: order}, {Page: -1, Order: 0}}
	for _, x := range extremes {
		l = append(l, api.BuBlock{Page: 0, Order: x})
		if x < 0 || x >= sizes[order] {
			l = append(l, api.BuBlock{Page: x, Order: 0}, api.BuBlock{Page: x, Order: order}, api.BuBlock{Page: x, Order: x})
		}
	}
	for k := 1; k <= order; k++ {
		l = append(l, api.BuBlock{Page: 1, Order: k}, api.BuBlock{Page: sizes[k] / 2, Order: k}, api.BuBlock{Page: sizes[order] - 1, Order: k})
	}
	return l
}

// P8.3: of a given block, neither a part nor what it is a part of can be freed
func TestFreeOfOtherOrders(t *testing.T) {
	for order := range 11 {
		b := start(t, 10)
		b.AllocAt(0, order)
		for k := range 11 {
			for _, page := range []int{0, sizes[order] / 2, sizes[order] - 1} {
				if page%sizes[k] == 0 && (page != 0 || k != order) {
					check(t, b.Free(page, k), api.ErrDown, "Free(", page, ", ", k, ") of the order ", order)
				}
			}
		}
		checkState(t, b, api.BuState{Order: 10, Given: []api.BuBlock{{Order: order}}}, "after errors")
	}
}

// P8.4: Owner of each page, and Blocks between given blocks
func TestOwnersAndBlocks(t *testing.T) {
	given := []api.BuBlock{{Page: 0, Order: 2}, {Page: 5, Order: 0}, {Page: 8, Order: 3}, {Page: 31, Order: 0}}
	b := load(t, api.BuState{Order: 6, Given: given})
	for page := range 64 {
		want := of(api.BuBlock{}, api.ErrNone)
		for _, x := range given {
			if x.Page <= page && page < x.Page+sizes[x.Order] {
				want = of(x, api.OK)
			}
		}
		check(t, of(b.Owner(page)), want, "Owner of ", page)
	}
	check(t, free(t, b), []api.BuBlock{{Page: 4}, {Page: 6, Order: 1}, {Page: 16, Order: 3}, {Page: 24, Order: 2}, {Page: 28, Order: 1}, {Page: 30}, {Page: 32, Order: 5}}, "Blocks")
	check(t, of(b.Largest()), of(5, api.OK), "Largest")
	for order, want := range []int{50, 24, 11, 5, 2, 1, 0, 0, 0, 0, 0} {
		check(t, of(b.Room(order)), of(want, api.OK), "Room of ", order)
	}
}
