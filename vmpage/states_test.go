package vmpage_test

import (
	"math/rand"
	"reflect"
	"slices"
	"testing"

	"polder/api"
	"polder/refusals"
	"polder/vmpage"
)

// checkForm compares what Load returns for a state with ErrForm, or with the state itself if it is one.
func checkForm(t *testing.T, x api.VmState, valid bool, what ...any) {
	t.Helper()
	if valid {
		checkState(t, load(t, x), x, what...)
		return
	}
	s, e := vmpage.Load(x)
	check(t, e, api.ErrForm, what...)
	check(t, s == nil, true, what...)
}

// runs returns runs with the numbers Page, Pages and Kind.
func runs(l ...[3]int) []api.VmRun {
	var all []api.VmRun
	for _, n := range l {
		all = append(all, api.VmRun{Page: n[0], Pages: n[1], Kind: n[2]})
	}
	return all
}

// P6.2: runs that are those of a state, and that are not
func TestLoadRuns(t *testing.T) {
	for _, l := range [][][3]int{
		{}, {{0, 1, 1}}, {{0, 1024, 1}}, {{0, 1024, 2}}, {{0, 1024, 3}}, {{1023, 1, 3}}, {{512, 512, 2}},
		{{0, 1, 1}, {1, 1, 2}}, {{0, 1, 1}, {2, 1, 1}}, {{0, 1, 3}, {1, 1, 1}, {2, 1, 3}}, {{4, 6, 2}, {11, 1, 2}, {12, 1012, 1}},
	} {
		checkForm(t, api.VmState{Runs: runs(l...)}, true, "Load of the runs ", l)
	}
	for _, l := range [][][3]int{
		{{0, 1, 0}}, {{0, 1, 4}}, {{0, 1, -1}}, {{0, 1, 5}}, {{0, 0, 1}}, {{0, -1, 1}}, {{-1, 1, 1}}, {{-1, 2, 1}}, {{0, 1025, 1}}, {{1023, 2, 1}}, {{1024, 1, 1}}, {{1024, 0, 1}},
		{{0, 1, 1}, {1, 1, 1}}, {{0, 1, 1}, {0, 1, 1}}, {{0, 1, 1}, {0, 1, 2}}, {{0, 3, 1}, {2, 1, 2}}, {{0, 3, 1}, {1, 1, 2}}, {{1, 1, 1}, {0, 1, 2}}, {{5, 1, 1}, {0, 1, 1}},
		{{0, 5, 1}, {5, 1, 0}}, {{0, 1, 1}, {1, 1, 2}, {2, 2, 2}}, {{0, 1, 1}, {3, 1, 2}, {3, 1, 2}}, {{0, 1, 1}, {3, 1, 2}, {2, 1, 3}}, {{0, 10, 2}, {3, 1, 1}, {20, 1, 1}},
		{{1, 0, 1}, {1, 1, 2}}, {{0, 1, 2}, {1, 1, 1}, {2, 1, 4}},
	} {
		checkForm(t, api.VmState{Runs: runs(l...)}, false, "Load of the runs ", l)
	}
	for _, n := range extremes {
		for _, r := range [][3]int{{n, 1, 1}, {n, n, 1}, {0, n, 1}, {1, n, 1}, {1023, n, 1}, {0, 1, n}, {n, -n, 1}, {n, 1 - n, 1}} {
			checkForm(t, api.VmState{Runs: runs(r)}, false, "Load of the run ", r)
			checkForm(t, api.VmState{Runs: runs([3]int{0, 1, 2}, r)}, false, "Load of the second run ", r)
		}
	}
}

// P6.2: huge pages that are those of a state, and that are not
func TestLoadHuge(t *testing.T) {
	all := []api.VmRun{{Page: 0, Pages: 1024, Kind: api.VmCommitted}}
	for _, l := range [][]int{nil, {}, {0}, {1008}, {16, 32}, {0, 512, 1008}} {
		checkForm(t, api.VmState{Runs: all, Huge: l}, true, "Load of the huge pages ", l)
	}
	for _, l := range [][]int{{1}, {8}, {15}, {1023}, {1024}, {1040}, {-16}, {0, 0}, {16, 0}, {0, 32, 16}, {0, 16, 17}, {16, 16}, {16, 32, 32}, {32, 64, 32}} {
		checkForm(t, api.VmState{Runs: all, Huge: l}, false, "Load of the huge pages ", l)
	}
	for _, n := range extremes {
		for _, l := range [][]int{{n}, {0, n}, {n, 0}, {1008, n}} {
			checkForm(t, api.VmState{Runs: all, Huge: l}, false, "Load of the huge pages ", l)
		}
	}
	for at := range 16 {
		for kind := range 4 {
			kinds := slices.Repeat([]int{api.VmCommitted}, 48)
			kinds[16+at] = kind
			x := kindsState(32, kinds, noRules)
			for first, complete := range map[int]bool{32: true, 48: kind == api.VmCommitted, 64: true, 80: false} {
				x.Huge = []int{first}
				checkForm(t, x, complete, "Load of the huge page ", first, ": ", 48+at, " is ", kind)
			}
		}
	}
}

// P6.2: bytes that are those of a state, and that are not
func TestLoadData(t *testing.T) {
	pages := runs([3]int{0, 3, api.VmCommitted}, [3]int{3, 1, api.VmReserved}, [3]int{4, 1, api.VmGuard}, [3]int{1008, 16, api.VmCommitted})
	some := func(numbers ...int) []api.VmData {
		var l []api.VmData
		for _, page := range numbers {
			l = append(l, api.VmData{Page: page, Bytes: [64]byte{9: 1}})
		}
		return l
	}
	for _, l := range [][]api.VmData{nil, {}, some(0), some(1, 2), some(0, 1, 2, 1008, 1023), {{Page: 2, Bytes: [64]byte{63: 255}}}, {{Page: 2, Bytes: [64]byte{0: 1, 63: 1}}}} {
		checkForm(t, api.VmState{Runs: pages, Huge: []int{1008}, Data: l}, true, "Load of the bytes ", l)
	}
	zero := api.VmData{Page: 1}
	for _, l := range [][]api.VmData{some(3), some(4), some(5), some(1007), some(1024), some(-1), some(0, 0), some(1, 0), some(0, 2, 1), some(0, 2, 2), some(0, 3), some(0, 1, 2, 1024), {zero}, append(some(0), zero), append([]api.VmData{zero}, some(2)...)} {
		checkForm(t, api.VmState{Runs: pages, Data: l}, false, "Load of the bytes ", l)
	}
	for _, n := range extremes {
		for _, l := range [][]api.VmData{some(n), some(0, n), some(n, 0)} {
			checkForm(t, api.VmState{Runs: pages, Data: l}, false, "Load of the bytes ", l)
		}
	}
	for at := range 64 {
		x := api.VmState{Runs: pages, Data: []api.VmData{{}}}
		x.Data[0].Bytes[at] = 1
		checkForm(t, x, true, "Load of the byte ", at)
	}
}

// P6.2: the errors of CheckState, also if the rest is wrong
func TestLoadRefusals(t *testing.T) {
	wrongPages := []api.VmState{{}, {Runs: runs([3]int{0, 0, 0})}, {Huge: []int{0}}, {Data: []api.VmData{{}}}}
	for _, x := range wrongPages {
		for i, want := range []api.Errno{api.ErrLong, api.ErrArg, api.ErrRange, api.ErrForm} {
			x.Refusals.Plan = wrongPlans()[i]
			s, e := vmpage.Load(x)
			check(t, e, want, "Load with a wrong plan")
			check(t, s == nil, true, "Load with a wrong plan")
		}
	}
	for kind := range api.RfKinds {
		p := always(kind)
		for _, c := range []struct{ calls, hits int }{{0, 0}, {1, 1}, {500, 500}, {1000000, 1000000}, {1, 0}, {0, 1}, {-1, 0}, {-1, -1}, {1000001, 1000001}, {3, 4}} {
			x := api.VmState{Runs: runs([3]int{7, 3, 2}), Refusals: api.RfState{Plan: p}}
			x.Refusals.Calls[kind], x.Refusals.Hits[kind] = c.calls, c.hits
			checkForm(t, x, refusals.CheckState(x.Refusals) == api.OK, "Load with the calls ", c)
			checkForm(t, x, c.calls == c.hits && c.calls >= 0 && c.calls <= 1000000, "Load with the calls ", c)
		}
	}
}

// P6.2: the states that calls lead to, saved and loaded
func TestSaveAndLoad(t *testing.T) {
	r := rand.New(rand.NewSource(10))
	for range 200 {
		m := randomModel(r, 16*(1+r.Intn(64)))
		checkState(t, load(t, m.state()), m.state(), "Load and Save")
	}
}

// P6.2: a system that was loaded does what the one does that was saved
func TestLoadedSystemsGoOn(t *testing.T) {
	r := rand.New(rand.NewSource(11))
	for range 20 {
		s := load(t, randomModel(r, 64).state())
		for range 20 {
			other := load(t, s.Save())
			for range 30 {
				a := randomAction(r, 64)
				check(t, a.on(other), a.on(s), a, " in a loaded system")
			}
			checkState(t, other, s.Save(), "a loaded system")
		}
	}
}

// change1 changes one thing in a state, which may be no state then.
func change1(r *rand.Rand, x *api.VmState) {
	some := func(n int) int { return n + r.Intn(5) - 2 }
	switch r.Intn(6) {
	case 0:
		if len(x.Runs) > 0 {
			run := &x.Runs[r.Intn(len(x.Runs))]
			n := []*int{&run.Page, &run.Pages, &run.Kind}[r.Intn(3)]
			*n = some(*n)
		}
	case 1:
		if len(x.Runs) > 1 {
			i := r.Intn(len(x.Runs) - 1)
			x.Runs[i], x.Runs[i+1] = x.Runs[i+1], x.Runs[i]
		}
	case 2:
		if len(x.Huge) > 0 {
			x.Huge[r.Intn(len(x.Huge))] += []int{-16, -1, 1, 16}[r.Intn(4)]
		}
	case 3:
		x.Huge = append(x.Huge, 16*r.Intn(6))
	case 4:
		if len(x.Data) > 0 {
			d := &x.Data[r.Intn(len(x.Data))]
			if r.Intn(2) == 0 {
				d.Bytes = [64]byte{}
			}
			d.Page = some(d.Page)
		}
	case 5:
		if len(x.Runs) > 0 {
			i := r.Intn(len(x.Runs))
			x.Runs = slices.Delete(x.Runs, i, i+1)
		}
	}
}

// isState reports whether a model that is made of x, as far as it can be, has the state x.
func isState(x api.VmState) bool {
	for _, r := range x.Runs {
		if r.Page < 0 || r.Pages < 1 || r.Page+r.Pages > 1024 || r.Kind < 1 || r.Kind > 3 {
			return false
		}
	}
	m := newModel(x.Refusals.Plan)
	m.refusals = x.Refusals
	for _, r := range x.Runs {
		for i := range r.Pages {
			m.is(r.Page+i, r.Kind)
		}
	}
	for _, page := range x.Huge {
		for i := range 16 {
			if !m.committed[page+i] {
				return false
			}
		}
		m.huge[page] = page%16 == 0
	}
	for _, d := range x.Data {
		for i, b := range d.Bytes {
			if m.Write(int64(64*d.Page+i), b) != api.OK {
				return false
			}
		}
	}
	for _, is := range m.huge {
		if !is {
			return false
		}
	}
	return equalStates(m.state(), x)
}

// P6.2: states of which one thing was changed
func TestLoadOfChangedStates(t *testing.T) {
	r := rand.New(rand.NewSource(12))
	counts := map[bool]int{}
	for range 3000 {
		x := randomModel(r, 80).state()
		for range 1 + r.Intn(2) {
			change1(r, &x)
		}
		valid := isState(x)
		counts[valid]++
		checkForm(t, x, valid, "Load of ", x)
	}
	if counts[true] < 200 || counts[false] < 1000 {
		t.Errorf("there were too few: %v", counts)
	}
}

// P6.2: lists of a state that is saved are those of the definition, even if they are empty
func TestSaveOfNothing(t *testing.T) {
	x := system(t, noRules).Save()
	if !reflect.DeepEqual(plain(x), api.VmState{}) {
		t.Errorf("Save of a new system: %v", x)
	}
}
