package links_test

import (
	"fmt"
	"math/rand"
	"testing"

	"polder/api"
	"polder/links"
)

// changer is a pool, or a model of one.
type changer interface {
	Push(list int, v string, front bool) (int, api.Errno)
	After(slot int, v string) (int, api.Errno)
	Take(slot int) (string, api.Errno)
	Move(slot, list int, front bool) api.Errno
	Put(slot int, v string) api.Errno
}

// action is a call that changes a pool.
type action struct {
	name       string
	slot, list int
	v          string
	front      bool
}

// on does the call.
func (a action) on(p changer) answer {
	switch a.name {
	case "Push":
		return of(p.Push(a.list, a.v, a.front))
	case "After":
		return of(p.After(a.slot, a.v))
	case "Take":
		return of(p.Take(a.slot))
	case "Move":
		return answer{nil, p.Move(a.slot, a.list, a.front)}
	case "Put":
		return answer{nil, p.Put(a.slot, a.v)}
	}
	panic("no such call: " + a.name)
}

// actions returns all calls with these slots, lists and this value.
func actions(slots, lists []int, v string) []action {
	var all []action
	for _, front := range []bool{false, true} {
		for _, list := range lists {
			all = append(all, action{"Push", 0, list, v, front})
			for _, slot := range slots {
				all = append(all, action{"Move", slot, list, "", front})
			}
		}
	}
	for _, slot := range slots {
		all = append(all, action{"After", slot, 0, v, false}, action{"Take", slot, 0, "", false}, action{"Put", slot, 0, v, false})
	}
	return all
}

// upTo returns the numbers from -1 to n, and some that are far off.
func upTo(n int) []int {
	var all []int
	for i := -1; i <= n; i++ {
		all = append(all, i)
	}
	return append(all, extremes...)
}

// checkAction does the call to both, and compares what it returned and the states.
func checkAction(t *testing.T, p *links.Pool[string], m *model, a action) {
	t.Helper()
	before := m.state()
	checkAnswer(t, a.on(p), a.on(m), fmt.Sprint(a, " of ", before))
	checkState(t, p, m, fmt.Sprint(a, " of ", before))
}

// P4.2, P4.3, P4.4: every call to every small pool, with an error or not
func TestAllCalls(t *testing.T) {
	for _, m := range small() {
		for _, a := range actions(upTo(len(m.values)), upTo(len(m.lists)), "new") {
			checkAction(t, load(t, m), m.clone(), a)
		}
	}
}

// P4.2, P4.3, P4.4, P4.7: many calls, one after the other, to pools that are saved and loaded in between
func TestManyCalls(t *testing.T) {
	r := rand.New(rand.NewSource(30))
	for _, size := range [][2]int{{1, 1}, {2, 1}, {3, 2}, {5, 3}, {10, 4}, {65, 64}, {200, 3}} {
		p, m := pool(t, size[0], size[1]), newModel(size[0], size[1])
		filling := true
		for i := range 4000 {
			if r.Intn(3*size[0]) == 0 {
				filling = !filling
			}
			a := randomAction(r, size[0], size[1], filling)
			a.v = fmt.Sprint("v", i)
			checkAction(t, p, m, a)
			if i%8 == 0 {
				checkAsks(t, p, m, r.Intn(size[0]+2)-1, r.Intn(size[1]+2)-1)
			}
			if i%16 == 0 {
				p = load(t, m)
			}
		}
	}
}

// randomAction returns a call that mostly has no error. A pool that is being filled has more calls that need a slot.
func randomAction(r *rand.Rand, slots, lists int, filling bool) action {
	names := []string{"Move", "Move", "Put", "Push", "After", "Take", "Take", "Take"}
	if filling {
		names = []string{"Move", "Move", "Put", "Push", "Push", "After", "After", "Take"}
	}
	a := action{name: names[r.Intn(len(names))], slot: r.Intn(slots), list: r.Intn(lists), front: r.Intn(2) == 0}
	switch r.Intn(20) {
	case 0:
		a.slot = upTo(slots)[r.Intn(slots+2)]
	case 1:
		a.list = upTo(lists)[r.Intn(lists+2)]
	}
	return a
}

// P4.2, P4.3: the largest pool
func TestLargestPool(t *testing.T) {
	p, m := pool(t, 2000, 64), newModel(2000, 64)
	for slot := range 2000 {
		checkAnswer(t, of(p.Push(slot%64, "x", slot%3 == 0)), of(m.Push(slot%64, "x", slot%3 == 0)), "Push", slot)
	}
	checkState(t, p, m, "2000 slots")
	checkAction(t, p, m, action{name: "Push", list: 63})
	checkAction(t, p, m, action{name: "After", slot: 1999})
	checkAction(t, p, m, action{name: "Move", slot: 1999, list: 63, front: true})
	checkAction(t, p, m, action{name: "Take", slot: 1999})
	checkAction(t, p, m, action{name: "Take", slot: 1000})
	checkAction(t, p, m, action{name: "After", slot: 0, v: "y"})
	checkAction(t, p, m, action{name: "Push", list: 0, v: "z"})
	for slot := range 2000 {
		checkAsks(t, p, m, slot, slot%64)
	}
}

// P4.2: the free slot with the least number is taken, whatever was freed last
func TestLeastFreeSlot(t *testing.T) {
	p := pool(t, 5, 2)
	for range 5 {
		p.Push(0, "x", false)
	}
	for _, slot := range []int{3, 1, 4} {
		p.Take(slot)
	}
	checkAnswer(t, of(p.Push(1, "x", true)), answer{1, api.OK}, "Push")
	checkAnswer(t, of(p.After(0, "x")), answer{3, api.OK}, "After")
	checkAnswer(t, of(p.Push(0, "x", false)), answer{4, api.OK}, "Push")
	checkAnswer(t, of(p.Push(0, "x", false)), answer{0, api.ErrFull}, "Push")
}

// P4.2, P4.3, R2: of several errors, the one that is named first
func TestErrorsInTurn(t *testing.T) {
	p := pool(t, 1, 1)
	p.Push(0, "x", false)
	checkAnswer(t, of(p.Push(1, "y", false)), answer{0, api.ErrRange}, "Push to no list of a full pool")
	checkAnswer(t, of(p.After(1, "y")), answer{0, api.ErrNone}, "After no slot of a full pool")
	checkAnswer(t, of(p.After(0, "y")), answer{0, api.ErrFull}, "After a slot of a full pool")
	if e := p.Move(1, 1, false); e != api.ErrNone {
		t.Errorf("Move of no slot to no list: %d", e)
	}
	if e := p.Move(0, 1, false); e != api.ErrRange {
		t.Errorf("Move to no list: %d", e)
	}
	p = pool(t, 1, 1)
	if e := p.Move(0, -1, false); e != api.ErrNone {
		t.Errorf("Move of a free slot to no list: %d", e)
	}
	checkAnswer(t, of(p.End(1, false)), answer{0, api.ErrRange}, "End of no list")
	checkAnswer(t, of(p.End(0, false)), answer{0, api.ErrNone}, "End of an empty list")
	checkAnswer(t, of(p.Step(0, false)), answer{0, api.ErrNone}, "Step from a free slot")
}
