package radixmap_test

import (
	"math/rand"
	"testing"

	"polder/api"
	"polder/radixmap"
)

// P7.7: how many nodes there are, from what Get says of the pages
func TestNodesAreThoseOfGroups(t *testing.T) {
	r := rand.New(rand.NewSource(40))
	for range 300 {
		m := load(t, randomModel(r, randomMost(r), 1024).Save())
		for range 10 {
			randomAction(r, 1024).on(m)
		}
		groups := map[group]bool{}
		for page := range 1024 {
			if _, e := m.Get(page); e == api.OK {
				groups[groupsOf(page)[0]] = true
				groups[groupsOf(page)[1]] = true
			}
		}
		check(t, m.Nodes(), 1+len(groups), "Nodes")
	}
}

// P7.8: what returns an error changes nothing
func TestErrorsChangeNothing(t *testing.T) {
	r := rand.New(rand.NewSource(41))
	seen := map[api.Errno]int{}
	for range 300 {
		m := load(t, randomModel(r, randomMost(r), 300).Save())
		for range 50 {
			a := randomAction(r, 300)
			before := m.Save()
			e := a.on(m).e
			seen[e]++
			if e != api.OK || a.name != "Set" && a.name != "Clear" {
				checkState(t, m, before, a)
			}
		}
	}
	for _, e := range []api.Errno{api.OK, api.ErrRange, api.ErrArg, api.ErrFull, api.ErrNone} {
		if seen[e] < 100 {
			t.Errorf("the error %d was there %d times only", e, seen[e])
		}
	}
}

// P7.8: after Clear of all pages, the state is that of New
func TestAllIsGivenBack(t *testing.T) {
	r := rand.New(rand.NewSource(42))
	for range 300 {
		most := randomMost(r)
		m := load(t, randomModel(r, most, 1024).Save())
		if r.Intn(2) == 0 {
			for _, page := range r.Perm(1024) {
				check(t, m.Clear(page, page+1), api.OK, "Clear of ", page)
			}
		} else {
			check(t, m.Clear(0, 1024), api.OK, "Clear of all")
		}
		checkState(t, m, start(t, most).Save(), "after all was cleared")
		check(t, m.Nodes(), 1, "Nodes")
	}
}

// P7.9: Set and Clear of a range are those of its pages
func TestRangesArePages(t *testing.T) {
	r := rand.New(rand.NewSource(43))
	for range 2000 {
		x := randomModel(r, randomMost(r), 300).Save()
		a := randomAction(r, 300)
		a.name = []string{"Set", "Clear"}[r.Intn(2)]
		if !arePages(a.from, a.to) {
			continue
		}
		whole, parts := load(t, x), load(t, x)
		e := a.on(whole).e
		single := api.OK
		for page := a.from; page < a.to && single == api.OK; page++ {
			single = action{name: a.name, from: page, to: page + 1, desc: a.desc}.on(parts).e
		}
		if a.from == a.to {
			continue
		}
		check(t, e, single, a)
		if single == api.OK {
			checkState(t, whole, parts.Save(), a)
		}
	}
}

// P7.9: Load of Save has the same state
func TestLoadOfSave(t *testing.T) {
	r := rand.New(rand.NewSource(44))
	for range 300 {
		m := load(t, randomModel(r, randomMost(r), 1024).Save())
		for range 20 {
			randomAction(r, 1024).on(m)
		}
		check(t, of(radixmap.Check(m.Save())), of(0, api.OK), "Check of Save")
		checkState(t, load(t, m.Save()), m.Save(), "Load of Save")
	}
}

// P7.9: a state in which a Level, or a kid, of a node is another one is refused
func TestOtherNumbersAreRefused(t *testing.T) {
	r := rand.New(rand.NewSource(45))
	for range 40 {
		s := randomModel(r, 1+r.Intn(20), 150).Save()
		for number := range s.Nodes {
			n := &s.Nodes[number]
			refuseOthers(t, s, &n.Level, append([]int{-1, 0, 1, 2, 3}, extremes...))
			for i := range n.Kids {
				others := append([]int{-1}, extremes...)
				for kid := range s.Most + 1 {
					others = append(others, kid)
				}
				refuseOthers(t, s, &n.Kids[i], others)
			}
		}
	}
}

// refuseOthers sets a number of s to others, one after the other, and checks that the states are refused.
func refuseOthers(t *testing.T, s api.RmState, number *int, others []int) {
	t.Helper()
	kept := *number
	for _, *number = range others {
		if *number == kept {
			continue
		}
		if m, e := radixmap.Load(s); e != api.ErrForm || m != nil {
			t.Fatalf("Load of %v, where %d was %d: %d", s, *number, kept, e)
		}
	}
	*number = kept
}
