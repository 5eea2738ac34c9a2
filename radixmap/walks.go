package radixmap

import (
	"iter"

	"polder/api"
)

// Walk goes through the pages from from on that have a description, ascending. The map may be changed meanwhile.
func (m *Map) Walk(from int) iter.Seq2[int, api.RmDesc] {
	return func(yield func(int, api.RmDesc) bool) {
		if !m.made() {
			return
		}
		for page, word := range words(from, m.word) {
			d, _ := Unpack(word) // the words of maps are packed descriptions
			if !yield(page, d) {
				return
			}
		}
	}
}

// words yields the pages from from on that have a word, ascending, each with what wordOf finds when its turn has come.
func words(from int, wordOf func(page int) uint64) iter.Seq2[int, uint64] {
	return func(yield func(int, uint64) bool) {
		for page := max(from, 0); page < api.VmPages; page++ {
			word := wordOf(page)
			if word != 0 && !yield(page, word) {
				return
			}
		}
	}
}

// Runs returns the runs of pages that have the same description, ascending.
func (m *Map) Runs() []api.RmRun {
	var runs []api.RmRun
	for page, d := range m.Walk(0) {
		runs = lengthen(runs, page, d)
	}
	return runs
}

// lengthen returns the runs of pages below page, and of this page, which has a description.
func lengthen(runs []api.RmRun, page int, d api.RmDesc) []api.RmRun {
	if last := len(runs) - 1; last >= 0 && runs[last].To == page && runs[last].Desc == d {
		runs[last].To++
		return runs
	}
	return append(runs, api.RmRun{From: page, To: page + 1, Desc: d})
}

// Owned returns the pages of an owner, ascending.
func (m *Map) Owned(owner int) ([]int, api.Errno) {
	if !m.made() {
		return nil, api.ErrNil
	}
	if owner < 0 || owner > api.MaxRmOwner {
		return nil, api.ErrRange
	}
	var pages []int
	for page, d := range m.Walk(0) {
		if d.Owner == owner {
			pages = append(pages, page)
		}
	}
	return pages, api.OK
}
