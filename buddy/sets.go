package buddy

import (
	"cmp"
	"iter"
	"slices"

	"polder/api"
)

// blockSet is a set of blocks no two of which have a page in common: for each order the pages at which its blocks begin, ascending.
type blockSet [api.MaxOrder + 1][]int

// has reports whether x is in s.
func (s *blockSet) has(x api.BuBlock) bool {
	_, is := slices.BinarySearch(s[x.Order], x.Page)
	return is
}

// add adds a block that is not in s.
func (s *blockSet) add(x api.BuBlock) {
	i, _ := slices.BinarySearch(s[x.Order], x.Page)
	s[x.Order] = slices.Insert(s[x.Order], i, x.Page)
}

// remove removes a block that is in s.
func (s *blockSet) remove(x api.BuBlock) {
	i, _ := slices.BinarySearch(s[x.Order], x.Page)
	s[x.Order] = slices.Delete(s[x.Order], i, i+1)
}

// from yields the blocks of s with the order or a greater one: first those of lesser orders, then those at lesser pages.
func (s *blockSet) from(order int) iter.Seq[api.BuBlock] {
	return func(yield func(api.BuBlock) bool) {
		for k := order; k <= api.MaxOrder; k++ {
			for _, page := range s[k] {
				if !yield(api.BuBlock{Page: page, Order: k}) {
					return
				}
			}
		}
	}
}

// first returns the first block that from yields, if there is one.
func (s *blockSet) first(order int) (api.BuBlock, bool) {
	for x := range s.from(order) {
		return x, true
	}
	return api.BuBlock{}, false
}

// holder returns the block of s with the order or a greater one that has the page, if there is one.
func (s *blockSet) holder(page, order int) (api.BuBlock, bool) {
	for k := order; k <= api.MaxOrder; k++ {
		if x := around(page, k); s.has(x) {
			return x, true
		}
	}
	return api.BuBlock{}, false
}

// list returns the blocks of s, ascending by their pages.
func (s *blockSet) list() []api.BuBlock {
	return slices.SortedFunc(s.from(0), byPage)
}

// byPage compares blocks by their pages.
func byPage(x, y api.BuBlock) int {
	return cmp.Compare(x.Page, y.Page)
}
