package radixmap_test

import (
	"iter"
	"math/rand"
	"slices"
	"testing"

	"polder/api"
	"polder/radixmap"
)

// met is a page that was yielded, with its description.
type met struct {
	page int
	desc api.RmDesc
}

// collect returns what a walk yields.
func collect(walk iter.Seq2[int, api.RmDesc]) []met {
	var l []met
	for page, d := range walk {
		l = append(l, met{page, d})
	}
	return l
}

// walk returns what a walk from from on should yield.
func (m *model) walk(from int) []met {
	var l []met
	for _, page := range m.pages() {
		if page >= from {
			l = append(l, met{page, m.descs[page]})
		}
	}
	return l
}

// P7.5: Walk, Runs and Owned of random maps
func TestWalks(t *testing.T) {
	r := rand.New(rand.NewSource(30))
	for range 300 {
		want := randomModel(r, randomMost(r), []int{20, 150, 1024}[r.Intn(3)])
		m := load(t, want.Save())
		from := []int{0, 1, 7, 8, 63, 64, 1015, 1016, 1022, 1023, 1024, 1025, -1, r.Intn(1024), r.Intn(1024)}
		for _, page := range append(from, extremes...) {
			check(t, collect(m.Walk(page)), want.walk(page), "Walk from ", page)
		}
		check(t, listed(m.Runs(), api.OK), listed(want.Runs(), api.OK), "Runs")
		for _, d := range append(descs, wrongDescs...) {
			check(t, listed(m.Owned(d.Owner)), listed(want.Owned(d.Owner)), "Owned of ", d.Owner)
		}
		checkState(t, m, want.Save(), "after walks")
	}
}

// P7.5: runs end where descriptions differ in one part, and are not ended by nodes
func TestRuns(t *testing.T) {
	for _, a := range descs {
		for _, b := range descs {
			m := start(t, 145)
			check(t, m.Set(0, 100, a), api.OK, "Set of ", a)
			check(t, m.Set(100, 1024, b), api.OK, "Set of ", b)
			want := []api.RmRun{{From: 0, To: 100, Desc: a}, {From: 100, To: 1024, Desc: b}}
			if a == b {
				want = []api.RmRun{{From: 0, To: 1024, Desc: a}}
			}
			check(t, m.Runs(), want, "Runs of ", a, " and ", b)
			check(t, m.Clear(100, 101), api.OK, "Clear")
			check(t, m.Runs(), []api.RmRun{{From: 0, To: 100, Desc: a}, {From: 101, To: 1024, Desc: b}}, "Runs of ", a, " and ", b, ", apart")
		}
	}
}

// P7.5: each owner, and numbers of none
func TestOwned(t *testing.T) {
	m := start(t, 145)
	for page := range 1024 {
		check(t, m.Set(page, page+1, api.RmDesc{Owner: page % 512 * 8, State: page % 16, Stamp: int64(page)}), api.OK, "Set")
	}
	for owner := range 4096 {
		var want []int
		if owner%8 == 0 {
			want = []int{owner / 8, 512 + owner/8}
		}
		check(t, listed(m.Owned(owner)), listed(want, api.OK), "Owned of ", owner)
	}
	for _, owner := range append([]int{-1, 4096, 4097}, extremes...) {
		check(t, listed(m.Owned(owner)), answer{[]int(nil), api.ErrRange}, "Owned of ", owner)
	}
}

// P7.5: a caller that ends a walk gets no more pages
func TestWalkEnds(t *testing.T) {
	m := start(t, 145)
	check(t, m.Set(60, 70, five()), api.OK, "Set")
	for n := range 12 {
		var l []int
		m.Walk(60)(func(page int, _ api.RmDesc) bool {
			l = append(l, page)
			return len(l) < n
		})
		check(t, len(l), min(max(n, 1), 10), "pages of a walk that is ended after ", n)
	}
	for page := range m.Walk(-7) {
		check(t, page, 60, "the first page")
		break
	}
}

// P7.5: a walk is made once and run several times; what changes before it runs counts
func TestWalkAgain(t *testing.T) {
	m := start(t, 145)
	walk := m.Walk(5)
	check(t, collect(walk), []met(nil), "a walk without pages")
	check(t, m.Set(3, 7, five()), api.OK, "Set")
	check(t, collect(walk), []met{{5, five()}, {6, five()}}, "a walk")
	check(t, collect(walk), []met{{5, five()}, {6, five()}}, "a walk, again")
	check(t, m.Clear(6, 7), api.OK, "Clear")
	check(t, m.Set(1023, 1024, api.RmDesc{}), api.OK, "Set")
	check(t, collect(walk), []met{{5, five()}, {1023, api.RmDesc{}}}, "a walk after changes")
}

// P7.5: changes while a walk runs
func TestChangesInWalk(t *testing.T) {
	other := api.RmDesc{Owner: 1}
	for name, c := range map[string]struct {
		change func(m *radixmap.Map, page int)
		want   []met
	}{
		"cleared behind it":      {func(m *radixmap.Map, page int) { m.Clear(page+1, page+2) }, []met{{5, five()}, {7, five()}, {9, five()}, {500, five()}}},
		"cleared itself":         {func(m *radixmap.Map, page int) { m.Clear(page, page+1) }, []met{{5, five()}, {6, five()}, {7, five()}, {8, five()}, {9, five()}, {500, five()}}},
		"all cleared":            {func(m *radixmap.Map, page int) { m.Clear(0, 1024) }, []met{{5, five()}}},
		"cleared up to it":       {func(m *radixmap.Map, page int) { m.Clear(0, page+1) }, []met{{5, five()}, {6, five()}, {7, five()}, {8, five()}, {9, five()}, {500, five()}}},
		"set itself":             {func(m *radixmap.Map, page int) { m.Set(page, page+1, other) }, []met{{5, five()}, {6, five()}, {7, five()}, {8, five()}, {9, five()}, {500, five()}}},
		"set the next one":       {func(m *radixmap.Map, page int) { m.Set(page+1, page+2, other) }, append([]met{{5, five()}}, others(6, 1024, other)...)},
		"set before it":          {func(m *radixmap.Map, page int) { m.Set(0, page, other) }, []met{{5, five()}, {6, five()}, {7, five()}, {8, five()}, {9, five()}, {500, five()}}},
		"set all behind it":      {func(m *radixmap.Map, page int) { m.Set(page+1, 1024, other) }, append([]met{{5, five()}}, others(6, 1024, other)...)},
		"set all":                {func(m *radixmap.Map, page int) { m.Set(0, 1024, other) }, append([]met{{5, five()}}, others(6, 1024, other)...)},
		"cleared, and set again": {func(m *radixmap.Map, page int) { m.Clear(0, 1024); m.Set(8, 9, other) }, []met{{5, five()}, {8, other}}},
	} {
		m := start(t, 145)
		m.Set(0, 10, five())
		m.Set(500, 501, five())
		var l []met
		for page, d := range m.Walk(5) {
			l = append(l, met{page, d})
			c.change(m, page)
		}
		check(t, l, c.want, name)
	}
}

// others returns pages with one description.
func others(from, to int, d api.RmDesc) []met {
	var l []met
	for page := from; page < to; page++ {
		l = append(l, met{page, d})
	}
	return l
}

// P7.5: random changes while a walk runs, compared with a model, page by page
func TestRandomChangesInWalk(t *testing.T) {
	r := rand.New(rand.NewSource(31))
	for range 300 {
		want := randomModel(r, 20+r.Intn(126), 300)
		m := load(t, want.Save())
		next := r.Intn(100)
		for page, d := range m.Walk(next) {
			left := want.walk(next)
			if len(left) == 0 {
				t.Fatalf("Walk yields %d, and should have ended", page)
			}
			check(t, met{page, d}, left[0], "Walk")
			next = page + 1
			for range r.Intn(3) {
				a := randomAction(r, 300)
				check(t, a.on(m), a.on(want), a)
			}
		}
		check(t, want.walk(next), []met(nil), "pages that Walk has not yielded")
	}
}

// P7.5: walks inside of walks
func TestWalkInWalk(t *testing.T) {
	m := start(t, 145)
	m.Set(63, 66, five())
	var l []int
	for outer := range m.Walk(0) {
		for inner := range m.Walk(outer) {
			l = append(l, outer, inner)
		}
	}
	if want := []int{63, 63, 63, 64, 63, 65, 64, 64, 64, 65, 65, 65}; !slices.Equal(l, want) {
		t.Errorf("walks in walks: %v, want %v", l, want)
	}
}
