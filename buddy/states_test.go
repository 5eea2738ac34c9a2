package buddy_test

import (
	"math/rand"
	"slices"
	"testing"

	"polder/api"
	"polder/buddy"
)

// P8.1: all orders, and numbers that are none
func TestNew(t *testing.T) {
	for order := -20; order < 200; order++ {
		checkNew(t, order)
	}
	for _, order := range extremes {
		checkNew(t, order)
	}
}

// checkNew compares what New and Load make of an order.
func checkNew(t *testing.T, order int) {
	t.Helper()
	b, e := buddy.New(order)
	if order < 0 || order > 10 {
		check(t, e, api.ErrRange, "New of ", order)
		check(t, b == nil, true, "New of ", order)
		checkLoad(t, api.BuState{Order: order}, api.ErrRange)
		checkLoad(t, api.BuState{Order: order, Given: []api.BuBlock{{Page: -1}}}, api.ErrRange)
		return
	}
	check(t, e, api.OK, "New of ", order)
	checkState(t, b, api.BuState{Order: order}, "New of ", order)
	check(t, free(t, b), []api.BuBlock{{Order: order}}, "Blocks of New of ", order)
	checkLoad(t, api.BuState{Order: order}, api.OK)
}

// checkLoad compares what Load returns, and that the state is kept.
func checkLoad(t *testing.T, s api.BuState, want api.Errno) {
	t.Helper()
	b, e := buddy.Load(s)
	check(t, e, want, "Load of ", s)
	check(t, b == nil, want != api.OK, "Load of ", s)
	if want == api.OK {
		checkState(t, b, s, "Load of ", s)
	}
}

// isState reports whether s, with an order that is right, is valid: each block is in the range, they ascend, and each page is in one at most.
func isState(s api.BuState) bool {
	times := make([]int, sizes[s.Order])
	last := -1
	for _, x := range s.Given {
		if !newModel(s.Order).isBlock(x) || x.Page <= last {
			return false
		}
		last = x.Page
		for page := x.Page; page < x.Page+sizes[x.Order]; page++ {
			times[page]++
		}
	}
	return !slices.ContainsFunc(times, func(n int) bool { return n > 1 })
}

// stateError returns what Load of s should return.
func stateError(s api.BuState) api.Errno {
	if !isOrder(s.Order) {
		return api.ErrRange
	}
	if !isState(s) {
		return api.ErrForm
	}
	return api.OK
}

// P8.1: all lists of at most three blocks, in ranges of small orders
func TestLoadEachList(t *testing.T) {
	var blocks []api.BuBlock
	for page := -1; page <= 4; page++ {
		for order := -1; order <= 3; order++ {
			blocks = append(blocks, api.BuBlock{Page: page, Order: order})
		}
	}
	right := 0
	for order := range 3 {
		for _, x := range blocks {
			for _, y := range blocks {
				for _, z := range blocks {
					for n := range 4 {
						s := api.BuState{Order: order, Given: []api.BuBlock{x, y, z}[:n]}
						e := stateError(s)
						checkLoad(t, s, e)
						if e == api.OK && n == 3 {
							right++
						}
					}
				}
			}
		}
	}
	// Of the order 2: three single pages in four ways, and a pair with two single pages in two.
	check(t, right, 6, "states with three blocks")
}

// P8.1: states that are wrong in one thing
func TestLoadWrong(t *testing.T) {
	for name, given := range map[string][]api.BuBlock{
		"a block twice":                   {{Page: 4, Order: 1}, {Page: 4, Order: 1}},
		"two orders at a page":            {{Page: 4, Order: 1}, {Page: 4, Order: 0}},
		"two orders at a page, ascending": {{Page: 4, Order: 0}, {Page: 4, Order: 1}},
		"a block in another":              {{Page: 0, Order: 3}, {Page: 6, Order: 1}},
		"a block in another, at its end":  {{Page: 0, Order: 3}, {Page: 7, Order: 0}},
		"descending":                      {{Page: 8, Order: 0}, {Page: 4, Order: 0}},
		"descending at the end":           {{Page: 0, Order: 0}, {Page: 8, Order: 0}, {Page: 4, Order: 0}},
		"the whole range, and a page":     {{Page: 0, Order: 4}, {Page: 15, Order: 0}},
		"an order below 0":                {{Page: 0, Order: -1}},
		"an order beyond that of all":     {{Page: 0, Order: 11}},
		"an order beyond the range's":     {{Page: 0, Order: 5}},
		"a page below 0":                  {{Page: -1, Order: 0}},
		"a group below 0":                 {{Page: -16, Order: 4}},
		"a page beyond the range":         {{Page: 16, Order: 0}},
		"a group beyond the range":        {{Page: 16, Order: 4}},
		"a page that is no multiple":      {{Page: 2, Order: 2}},
		"a page that is no multiple, odd": {{Page: 15, Order: 1}},
		"the last one":                    {{Page: 0, Order: 2}, {Page: 4, Order: 1}, {Page: 6, Order: 2}},
	} {
		s := api.BuState{Order: 4, Given: given}
		check(t, isState(s), false, name)
		checkLoad(t, s, api.ErrForm)
	}
}

// P8.1: extreme numbers in states
func TestLoadExtremes(t *testing.T) {
	numbers := append([]int{0, 1, 2, 10, 512, 1023}, extremes...)
	for _, order := range numbers {
		for _, page := range numbers {
			for _, k := range numbers {
				s := api.BuState{Order: order, Given: []api.BuBlock{{Page: page, Order: k}}}
				checkLoad(t, s, stateError(s))
				s.Given = append([]api.BuBlock{{Page: 0, Order: 0}}, s.Given...)
				checkLoad(t, s, stateError(s))
			}
		}
	}
}

// P8.1: random states of all orders that are right, or are changed in one number or place
func TestLoadRandom(t *testing.T) {
	r := rand.New(rand.NewSource(10))
	seen := map[api.Errno]int{}
	for i := range 3000 {
		s := randomModel(r, i%11).Save()
		checkLoad(t, s, api.OK)
		spoil(r, &s)
		e := stateError(s)
		checkLoad(t, s, e)
		seen[e]++
	}
	for _, e := range []api.Errno{api.OK, api.ErrForm, api.ErrRange} {
		if seen[e] < 100 {
			t.Errorf("the error %d was there %d times only", e, seen[e])
		}
	}
}

// spoil changes a state, which may still be right then.
func spoil(r *rand.Rand, s *api.BuState) {
	if len(s.Given) == 0 || r.Intn(6) == 0 {
		s.Order += r.Intn(5) - 2
		return
	}
	i, j := r.Intn(len(s.Given)), r.Intn(len(s.Given))
	switch r.Intn(5) {
	case 0:
		s.Given[i].Page += r.Intn(5) - 2
	case 1:
		s.Given[i].Order += r.Intn(3) - 1
	case 2:
		s.Given[i], s.Given[j] = s.Given[j], s.Given[i]
	case 3:
		s.Given = slices.Insert(s.Given, i, s.Given[j])
	case 4:
		s.Given = slices.Delete(s.Given, i, i+1)
	}
}

// P8.1: the whole range is given page by page, and back
func TestSaveOfSinglePages(t *testing.T) {
	b := start(t, 10)
	want := api.BuState{Order: 10}
	for page := range 1024 {
		check(t, of(b.Alloc(0)), of(page, api.OK), "Alloc(0)")
		want.Given = append(want.Given, api.BuBlock{Page: page})
	}
	checkState(t, b, want, "all pages are given")
	checkLoad(t, want, api.OK)
	checkLoad(t, api.BuState{Order: 10, Given: append(want.Given, api.BuBlock{Page: 1023})}, api.ErrForm)
	check(t, free(t, b), []api.BuBlock(nil), "Blocks")
	for _, page := range rand.New(rand.NewSource(11)).Perm(1024) {
		check(t, b.Free(page, 0), api.OK, "Free of ", page)
	}
	checkState(t, b, api.BuState{Order: 10}, "all pages are free")
}
