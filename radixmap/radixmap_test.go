package radixmap_test

import (
	"math/rand"
	"testing"

	"polder/api"
	"polder/radixmap"
)

// The examples of the chapter
func TestExamples(t *testing.T) {
	check(t, of(radixmap.Pack(five())), of(uint64(401419), api.OK), "Pack")
	check(t, of(radixmap.Unpack(2)), of(api.RmDesc{}, api.ErrForm), "Unpack(2)")
	m := start(t, 4)
	check(t, m.Set(7, 9, five()), api.OK, "Set(7, 9)")
	check(t, m.Nodes(), 4, "Nodes")
	check(t, m.Set(64, 65, five()), api.ErrFull, "Set(64, 65)")
	check(t, m.Runs(), []api.RmRun{{From: 7, To: 9, Desc: five()}}, "Runs")
	check(t, of(m.Get(9)), of(api.RmDesc{}, api.ErrNone), "Get(9)")
	check(t, of(m.Owned(5)), of([]int{7, 8}, api.OK), "Owned(5)")
	check(t, m.Clear(7, 8), api.OK, "Clear(7, 8)")
	check(t, m.Nodes(), 3, "Nodes")
	check(t, m.Set(8, 16, five()), api.OK, "Set(8, 16)")
	check(t, m.Nodes(), 3, "Nodes")
	s := m.Save()
	check(t, s.Nodes[0].Kids[0], 1, "the kid 0 of the node 0")
	check(t, s.Nodes[1].Kids[0], 0, "the kid 0 of the node 1")
	check(t, s.Nodes[1].Kids[1], 3, "the kid 1 of the node 1")
	check(t, s.Nodes[2].Level, -1, "the Level of the node 2")
	check(t, s.Nodes[3].Level, 2, "the Level of the node 3")
	check(t, m.Clear(0, 1024), api.OK, "Clear(0, 1024)")
	check(t, m.Nodes(), 1, "Nodes")
	check(t, m.Set(5, 4, five()), api.ErrRange, "Set(5, 4)")
}

// P7.2: how many nodes there may be, and the map without descriptions
func TestNew(t *testing.T) {
	numbers := append([]int{}, extremes...)
	for most := -5; most < 300; most++ {
		numbers = append(numbers, most)
	}
	for _, most := range numbers {
		m, e := radixmap.New(most)
		if most < 1 || most > 145 {
			check(t, e, api.ErrRange, "New of ", most)
			check(t, m == nil, true, "New of ", most)
			continue
		}
		check(t, e, api.OK, "New of ", most)
		checkState(t, m, newModel(most).Save(), "New of ", most)
		check(t, m.Nodes(), 1, "Nodes of New of ", most)
		check(t, len(m.Runs()), 0, "Runs of New of ", most)
	}
}

// P7.3, P7.4: each page alone, in a map with just enough nodes
func TestEachPage(t *testing.T) {
	for page := range 1024 {
		m := start(t, 3)
		want := newModel(3)
		want.descs[page] = five()
		want.numbers = map[group]int{{64, page / 64 * 64}: 1, {8, page / 8 * 8}: 2}
		check(t, m.Set(page, page+1, five()), api.OK, "Set of ", page)
		checkState(t, m, want.Save(), "Set of ", page)
		check(t, m.Nodes(), 3, "Nodes after Set of ", page)
		for other := range 1024 {
			wanted := of(api.RmDesc{}, api.ErrNone)
			if other == page {
				wanted = of(five(), api.OK)
			}
			check(t, of(m.Get(other)), wanted, "Get of ", other, " after Set of ", page)
		}
		check(t, m.Clear(0, page), api.OK, "Clear below ", page)
		check(t, m.Clear(page+1, 1024), api.OK, "Clear behind ", page)
		checkState(t, m, want.Save(), "Clear of all but ", page)
		check(t, m.Clear(page, page+1), api.OK, "Clear of ", page)
		checkState(t, m, newModel(3).Save(), "Clear of ", page)
	}
}

// P7.4: pages that are none
func TestGetOfNoPages(t *testing.T) {
	m := start(t, 145)
	check(t, m.Set(0, 1024, five()), api.OK, "Set of all")
	for _, page := range append([]int{-1, 1024, 1025}, extremes...) {
		check(t, of(m.Get(page)), of(api.RmDesc{}, api.ErrRange), "Get of ", page)
	}
	check(t, of(m.Get(0)), of(five(), api.OK), "Get of 0")
	check(t, of(m.Get(1023)), of(five(), api.OK), "Get of 1023")
}

// P7.3: pages that are there, and such that are not all there; the errors in their order
func TestErrors(t *testing.T) {
	ends := append([]int{-1, 0, 1, 7, 8, 9, 500, 1022, 1023, 1024, 1025, 1088}, extremes...)
	for _, from := range ends {
		for _, to := range ends {
			for _, d := range append([]api.RmDesc{five()}, wrongDescs...) {
				checkErrors(t, from, to, d)
			}
		}
	}
}

// checkErrors compares the errors of a map that may have no nodes but the root, and of one that may have all.
func checkErrors(t *testing.T, from, to int, d api.RmDesc) {
	t.Helper()
	there := arePages(from, to)
	for _, most := range []int{1, 145} {
		want := api.OK
		switch {
		case !there:
			want = api.ErrRange
		case !isDesc(d):
			want = api.ErrArg
		case most == 1 && from < to:
			want = api.ErrFull
		}
		m := start(t, most)
		check(t, m.Set(from, to, d), want, "Set of ", from, ", ", to, ", ", d, " with ", most, " nodes")
		if want != api.OK {
			checkState(t, m, newModel(most).Save(), "Set of ", from, ", ", to, ", ", d, " with ", most, " nodes")
		}
		want = api.OK
		if !there {
			want = api.ErrRange
		}
		check(t, m.Clear(from, to), want, "Clear of ", from, ", ", to)
	}
}

// P7.3: ranges without pages change nothing, also where no more nodes may be made
func TestNoPages(t *testing.T) {
	m := start(t, 3)
	check(t, m.Set(9, 10, five()), api.OK, "Set")
	before := m.Save()
	for page := range 1025 {
		check(t, m.Set(page, page, api.RmDesc{Owner: 7}), api.OK, "Set of ", page, ", ", page)
		check(t, m.Clear(page, page), api.OK, "Clear of ", page, ", ", page)
		checkState(t, m, before, "no page at ", page)
	}
}

// P7.3: for all ranges that begin and end near the ends of nodes, the least number of nodes with which Set has no error
func TestFull(t *testing.T) {
	ends := []int{0, 1, 7, 8, 9, 15, 16, 17, 55, 56, 63, 64, 65, 71, 72, 127, 128, 129, 500, 512, 960, 1015, 1016, 1023, 1024}
	for _, from := range ends {
		for _, to := range ends {
			if from >= to {
				continue
			}
			need := 1 + (to-1)/64 - from/64 + 1 + (to-1)/8 - from/8 + 1
			m := start(t, need)
			check(t, m.Set(from, to, five()), api.OK, "Set of ", from, ", ", to, " with ", need, " nodes")
			check(t, m.Nodes(), need, "Nodes of ", from, ", ", to)
			m = start(t, need-1)
			check(t, m.Set(from, to, five()), api.ErrFull, "Set of ", from, ", ", to, " with ", need-1, " nodes")
			checkState(t, m, newModel(need-1).Save(), "Set of ", from, ", ", to, " with ", need-1, " nodes")
		}
	}
}

// P7.3: nodes that are there already count once
func TestFullBesideOthers(t *testing.T) {
	ends := []int{0, 1, 7, 8, 9, 40, 63, 64, 65, 72, 80, 128, 130}
	for most := 4; most < 25; most++ {
		for _, from := range ends {
			for _, to := range ends {
				want := newModel(most)
				m := start(t, most)
				for _, a := range []action{{name: "Set", from: 66, to: 67, desc: five()}, {name: "Set", from: 3, to: 4, desc: five()}, {name: "Set", from: from, to: to}} {
					check(t, a.on(m), a.on(want), a, " with ", most, " nodes")
					checkState(t, m, want.Save(), a, " with ", most, " nodes")
				}
			}
		}
	}
}

// Numbers of nodes: the least free ones, page by page, the middle node first; given back at once
func TestNumbers(t *testing.T) {
	m := start(t, 20)
	kids := func(number int) []int { return m.Save().Nodes[number].Kids }
	check(t, m.Set(55, 73, five()), api.OK, "Set(55, 73)")
	check(t, kids(0), []int{1, 4, 0, 0, 0, 0, 0, 0, 0, 0, 0, 0, 0, 0, 0, 0}, "the kids of the root")
	check(t, kids(1), []int{0, 0, 0, 0, 0, 0, 2, 3}, "the kids of the node 1")
	check(t, kids(4), []int{5, 6, 0, 0, 0, 0, 0, 0}, "the kids of the node 4")
	check(t, m.Clear(56, 64), api.OK, "Clear(56, 64)")
	check(t, m.Clear(64, 72), api.OK, "Clear(64, 72)")
	check(t, m.Set(1000, 1001, five()), api.OK, "Set(1000, 1001)")
	check(t, kids(0), []int{1, 4, 0, 0, 0, 0, 0, 0, 0, 0, 0, 0, 0, 0, 0, 3}, "the kids of the root")
	check(t, kids(3), []int{0, 0, 0, 0, 0, 5, 0, 0}, "the kids of the node 3")
	check(t, m.Clear(0, 64), api.OK, "Clear(0, 64)")
	check(t, m.Set(130, 131, five()), api.OK, "Set(130, 131)")
	check(t, kids(0), []int{0, 4, 1, 0, 0, 0, 0, 0, 0, 0, 0, 0, 0, 0, 0, 3}, "the kids of the root")
	check(t, kids(1), []int{2, 0, 0, 0, 0, 0, 0, 0}, "the kids of the node 1")
	check(t, m.Set(0, 24, five()), api.OK, "Set(0, 24)")
	check(t, kids(0), []int{7, 4, 1, 0, 0, 0, 0, 0, 0, 0, 0, 0, 0, 0, 0, 3}, "the kids of the root")
	check(t, kids(7), []int{8, 9, 10, 0, 0, 0, 0, 0}, "the kids of the node 7")
	check(t, m.Nodes(), 11, "Nodes")
}

// P7.3: a leaf is given back with its last description, not before, and then its middle node with its last leaf
func TestGivenBack(t *testing.T) {
	m := start(t, 5)
	check(t, m.Set(64, 80, five()), api.OK, "Set")
	for i, nodes := range []int{4, 4, 4, 4, 4, 4, 4, 3, 3, 3, 3, 3, 3, 3, 3, 1} {
		check(t, m.Clear(64+i, 65+i), api.OK, "Clear of ", 64+i)
		check(t, m.Nodes(), nodes, "Nodes after Clear of ", 64+i)
	}
	checkState(t, m, newModel(5).Save(), "Clear of all")
	check(t, m.Set(64, 80, five()), api.OK, "Set")
	for i, nodes := range []int{4, 4, 4, 4, 4, 4, 4, 3, 3, 3, 3, 3, 3, 3, 3, 1} {
		check(t, m.Clear(79-i, 80-i), api.OK, "Clear of ", 79-i)
		check(t, m.Nodes(), nodes, "Nodes after Clear of ", 79-i)
	}
	checkState(t, m, newModel(5).Save(), "Clear of all")
}

// P7.3: a description takes the place of another one, of which nothing is left
func TestSetAgain(t *testing.T) {
	for _, a := range descs {
		for _, b := range descs {
			m := start(t, 4)
			check(t, m.Set(6, 10, a), api.OK, "Set of ", a)
			check(t, m.Set(7, 9, b), api.OK, "Set of ", b)
			for page, want := range map[int]api.RmDesc{6: a, 7: b, 8: b, 9: a} {
				check(t, of(m.Get(page)), of(want, api.OK), "Get of ", page, ": ", b, " after ", a)
			}
			check(t, m.Nodes(), 4, "Nodes")
		}
	}
}

// P7.3 to P7.6: long sequences of calls, compared with a model
func TestSequences(t *testing.T) {
	r := rand.New(rand.NewSource(10))
	for range 250 {
		most, pages := randomMost(r), []int{20, 150, 1024}[r.Intn(3)]
		want := newModel(most)
		m := start(t, most)
		for range 100 {
			a := randomAction(r, pages)
			check(t, a.on(m), a.on(want), a)
			checkState(t, m, want.Save(), a)
		}
	}
}
