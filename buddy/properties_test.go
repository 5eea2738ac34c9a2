package buddy_test

import (
	"math/rand"
	"testing"

	"polder/api"
	"polder/buddy"
)

// P8.5: Alloc fails only if there is no such block, and takes free pages alone, out of the least free block that has such a block
func TestAllocFailsOnlyWithoutRoom(t *testing.T) {
	r := rand.New(rand.NewSource(20))
	for i := range 600 {
		before := randomModel(r, i%11)
		for order := range 11 {
			b := load(t, before.Save())
			blocks := free(t, b)
			page, e := b.Alloc(order)
			if len(before.all(order)) == 0 {
				check(t, of(page, e), of(0, api.ErrFull), "Alloc of ", order)
				continue
			}
			x := api.BuBlock{Page: page, Order: order}
			check(t, e, api.OK, "Alloc of ", order)
			check(t, before.isBlock(x) && before.isFree(x), true, "Alloc of ", order, ": ", x, " was free")
			taken := holder(blocks, page)
			check(t, taken.Page, page, "Alloc of ", order, ": the page of the free block")
			for _, other := range blocks {
				if other.Order >= order && (other.Order < taken.Order || other.Order == taken.Order && other.Page < taken.Page) {
					t.Fatalf("Alloc of %d takes %v, and there was %v", order, taken, other)
				}
			}
		}
	}
}

// holder returns the block that has a page.
func holder(blocks []api.BuBlock, page int) api.BuBlock {
	for _, x := range blocks {
		if x.Page <= page && page < x.Page+sizes[x.Order] {
			return x
		}
	}
	return api.BuBlock{Page: -1}
}

// P8.6: each page is in just one block, and free blocks are no two halves, after any calls
func TestBlocksArePartition(t *testing.T) {
	r := rand.New(rand.NewSource(21))
	for i := range 330 {
		m := randomModel(r, i%11)
		b := load(t, m.Save())
		for range 30 {
			a := randomAction(r, m)
			a.on(m)
			a.on(b)
			checkPartition(t, b, sizes[i%11])
		}
	}
}

// checkPartition checks that the blocks of b have each page of its range just once, and that its free blocks ascend and are no two halves.
func checkPartition(t *testing.T, b *buddy.Buddy, pages int) {
	t.Helper()
	times := make([]int, pages)
	blocks := free(t, b)
	is := map[api.BuBlock]bool{}
	last := -1
	for _, x := range blocks {
		check(t, x.Page > last, true, "Blocks ", blocks, " ascend")
		last = x.Page
		is[x] = true
	}
	for _, x := range append(blocks, b.Save().Given...) {
		check(t, x.Page%sizes[x.Order], 0, "the page of ", x)
		for page := x.Page; page < x.Page+sizes[x.Order]; page++ {
			times[page]++
		}
		high := api.BuBlock{Page: x.Page + sizes[x.Order], Order: x.Order}
		check(t, x.Page/sizes[x.Order]%2 == 0 && is[x] && is[high], false, "two halves, ", x, " and ", high)
	}
	for page, n := range times {
		check(t, n, 1, "how many blocks have the page ", page)
	}
}

// P8.7: if all given blocks are freed, the whole range is one free block
func TestAllIsFreed(t *testing.T) {
	r := rand.New(rand.NewSource(22))
	for i := range 1100 {
		s := randomModel(r, i%11).Save()
		b := load(t, s)
		for _, at := range r.Perm(len(s.Given)) {
			check(t, b.Free(s.Given[at].Page, s.Given[at].Order), api.OK, "Free of ", s.Given[at])
		}
		checkWhole(t, b, i%11)
	}
}

// checkWhole checks that the whole range is one free block.
func checkWhole(t *testing.T, b *buddy.Buddy, order int) {
	t.Helper()
	checkState(t, b, start(t, order).Save(), "after all was freed")
	check(t, free(t, b), []api.BuBlock{{Page: 0, Order: order}}, "Blocks after all was freed")
	check(t, of(b.Largest()), of(order, api.OK), "Largest after all was freed")
}

// P8.7: all states of small ranges, freed in all orders
func TestAllIsFreedInEachOrder(t *testing.T) {
	for order := range 3 {
		for _, given := range states(api.BuBlock{Order: order}) {
			for _, sequence := range sequences(given) {
				b := load(t, api.BuState{Order: order, Given: given})
				for _, x := range sequence {
					check(t, b.Free(x.Page, x.Order), api.OK, "Free of ", x)
				}
				checkWhole(t, b, order)
			}
		}
	}
}

// sequences returns all sequences of some blocks.
func sequences(blocks []api.BuBlock) [][]api.BuBlock {
	if len(blocks) == 0 {
		return [][]api.BuBlock{nil}
	}
	var l [][]api.BuBlock
	for i, x := range blocks {
		rest := append(append([]api.BuBlock{}, blocks[:i]...), blocks[i+1:]...)
		for _, s := range sequences(rest) {
			l = append(l, append([]api.BuBlock{x}, s...))
		}
	}
	return l
}

// P8.7: Free undoes Alloc and AllocAt
func TestFreeUndoesAlloc(t *testing.T) {
	r := rand.New(rand.NewSource(23))
	undone := 0
	for i := range 1100 {
		m := randomModel(r, i%11)
		b := load(t, m.Save())
		for order := range i%11 + 1 {
			before, blocks := b.Save(), free(t, b)
			page, e := b.Alloc(order)
			if e == api.OK {
				check(t, b.Free(page, order), api.OK, "Free of what Alloc gave")
				undone++
			}
			page = r.Intn(sizes[i%11]) / sizes[order] * sizes[order]
			if b.AllocAt(page, order) == api.OK {
				check(t, b.Free(page, order), api.OK, "Free of what AllocAt gave")
				undone++
			}
			checkState(t, b, before, "after Free")
			check(t, free(t, b), blocks, "Blocks after Free")
		}
	}
	check(t, undone > 1000, true, "blocks were given")
}

// P8.8: Room is the sum over the free blocks, and so many blocks can be given
func TestRoom(t *testing.T) {
	r := rand.New(rand.NewSource(24))
	for i := range 330 {
		s := randomModel(r, i%11).Save()
		for order := range 11 {
			b := load(t, s)
			room, e := b.Room(order)
			check(t, e, api.OK, "Room of ", order)
			sum := 0
			for _, x := range free(t, b) {
				if x.Order >= order {
					sum += sizes[x.Order] / sizes[order]
				}
			}
			check(t, room, sum, "Room of ", order)
			for n := room; n > 0; n-- {
				check(t, of(b.Room(order)), of(n, api.OK), "Room of ", order)
				_, e := b.Alloc(order)
				check(t, e, api.OK, "Alloc of ", order)
			}
			check(t, of(b.Alloc(order)), of(0, api.ErrFull), "Alloc of ", order)
			check(t, of(b.Room(order)), of(0, api.OK), "Room of ", order)
			check(t, givenAnywhere(load(t, s), r, i%11, order), room, "how many blocks can be given, in whatever order")
		}
	}
}

// givenAnywhere gives blocks of an order until there is no room for more, and returns how many it gave.
func givenAnywhere(b *buddy.Buddy, r *rand.Rand, whole, order int) int {
	if order > whole {
		return 0
	}
	n := 0
	for _, i := range r.Perm(sizes[whole] / sizes[order]) {
		if b.AllocAt(i*sizes[order], order) == api.OK {
			n++
		}
	}
	return n
}
