package buddy_test

import (
	"math/rand"
	"reflect"
	"slices"
	"testing"

	"polder/api"
	"polder/buddy"
)

// P8, R5: an allocator that is nil, or was not made by the package
func TestAllocatorsOfNobody(t *testing.T) {
	for what, b := range map[string]*buddy.Buddy{"nil": nil, "zero": {}, "new": new(buddy.Buddy)} {
		for _, name := range names {
			for _, page := range append([]int{0, 1, 1023}, extremes...) {
				for _, order := range append([]int{0, 1, 10}, extremes...) {
					a := action{name, page, order}
					got := a.on(b)
					if got.e != api.ErrNil || !reflect.ValueOf(got.value).IsZero() {
						t.Fatalf("%s: %v: %v", what, a, got)
					}
				}
			}
		}
		check(t, plain(b.Save()), api.BuState{}, what, ": Save")
	}
}

// R1, R2: all numbers are accepted, what returns an error changes nothing, and returns nothing else
func TestAllArguments(t *testing.T) {
	r := rand.New(rand.NewSource(30))
	numbers := append([]int{0, 1, 2, 3, 4, 8, 10, 512, 1023}, extremes...)
	number := func() int { return numbers[r.Intn(len(numbers))] }
	for order := range 11 {
		b := load(t, randomModel(r, order).Save())
		for range 3000 {
			a := action{names[r.Intn(len(names))], number(), number()}
			before, blocks := b.Save(), free(t, b)
			got := a.on(b)
			if got.e != api.OK && !reflect.ValueOf(got.value).IsZero() {
				t.Fatalf("%v: %v", a, got)
			}
			if changes := a.name == "Alloc" || a.name == "AllocAt" || a.name == "Free"; got.e != api.OK || !changes {
				checkState(t, b, before, a)
				check(t, free(t, b), blocks, a, ": Blocks")
			}
		}
	}
}

// overwrite changes all of a list, and the memory behind it.
func overwrite(l []api.BuBlock) {
	l = l[:cap(l)]
	for i := range l {
		l[i] = api.BuBlock{Page: 99, Order: 99}
	}
}

// R3: allocators share no memory with states that they were made of, nor with what they have returned
func TestResultsAreFresh(t *testing.T) {
	r := rand.New(rand.NewSource(31))
	for i := range 300 {
		m := randomModel(r, i%11)
		s := m.Save()
		s.Given = slices.Grow(s.Given, 5)
		b := load(t, s)
		overwrite(s.Given)
		checkState(t, b, m.Save(), "the argument of Load is overwritten")
		one, two := b.Save(), b.Save()
		blocks, _ := b.Blocks()
		again := free(t, b)
		overwrite(one.Given)
		overwrite(blocks)
		check(t, plain(two), plain(m.Save()), "another Save, after the result of Save is overwritten")
		checkState(t, b, m.Save(), "results are overwritten")
		check(t, free(t, b), again, "Blocks, after results are overwritten")
		kept, _ := b.Blocks()
		for range 20 {
			randomAction(r, m).on(b)
		}
		check(t, append([]api.BuBlock(nil), kept...), again, "the result of Blocks, after later calls")
		check(t, plain(two), plain(m.Save()), "the result of Save, after later calls")
	}
}

// R3: Load does not change its argument, nor what is behind it, also by later calls
func TestArgumentsStay(t *testing.T) {
	r := rand.New(rand.NewSource(32))
	for i := range 300 {
		m := randomModel(r, i%11)
		s := m.Save()
		if r.Intn(2) == 0 {
			spoil(r, &s)
		}
		memory := append(slices.Clone(s.Given), api.BuBlock{Page: 77}, api.BuBlock{Page: 78})
		kept := slices.Clone(memory)
		s.Given = memory[:len(s.Given)]
		b, e := buddy.Load(s)
		for range 20 {
			if e == api.OK {
				randomAction(r, m).on(b)
			}
		}
		check(t, memory, kept, "the argument of Load")
	}
}

// R4: lists that are nil and that are empty mean the same
func TestNilLists(t *testing.T) {
	for order := range 11 {
		checkLoad(t, api.BuState{Order: order, Given: nil}, api.OK)
		checkLoad(t, api.BuState{Order: order, Given: []api.BuBlock{}}, api.OK)
	}
	checkLoad(t, api.BuState{Order: 11, Given: []api.BuBlock{}}, api.ErrRange)
}

// R6: allocators with equal states return the same, whatever was done before; different ones are independent
func TestEqualStatesReturnTheSame(t *testing.T) {
	r := rand.New(rand.NewSource(33))
	for i := range 110 {
		m := newModel(i % 11)
		b, other := start(t, i%11), start(t, i%11)
		for range 60 {
			randomAction(r, m).on(b)
			randomAction(r, m).on(other)
		}
		same := load(t, b.Save())
		for range 60 {
			a := randomAction(r, m)
			check(t, a.on(same), a.on(b), a)
			randomAction(r, m).on(other)
			checkState(t, same, b.Save(), a)
		}
		check(t, free(t, same), free(t, b), "Blocks")
	}
}
