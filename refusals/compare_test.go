package refusals_test

import (
	"math/rand"
	"slices"
	"testing"

	"polder/api"
	"polder/refusals"
)

// refusedSets returns, for each kind, which calls up to most a plan refuses.
func refusedSets(p api.RfPlan, most int) [api.RfKinds][]bool {
	var sets [api.RfKinds][]bool
	for kind := range sets {
		sets[kind] = make([]bool, most+1)
	}
	for _, r := range p.Rules {
		for n := range sets[r.Kind] {
			if ruleRefuses(r, n) {
				sets[r.Kind][n] = true
			}
		}
	}
	return sets
}

// sameUpTo reports whether two plans refuse the same calls up to most.
func sameUpTo(a, b api.RfPlan, most int) bool {
	setsA, setsB := refusedSets(a, most), refusedSets(b, most)
	for kind := range setsA {
		if !slices.Equal(setsA[kind], setsB[kind]) {
			return false
		}
	}
	return true
}

// checkSame compares Same of two plans, in both orders, with want.
func checkSame(t *testing.T, a, b api.RfPlan, want bool) {
	t.Helper()
	check(t, of(refusals.Same(a, b)), of(want, api.OK), "Same of ", short(a), ", ", short(b))
	check(t, of(refusals.Same(b, a)), of(want, api.OK), "Same of ", short(b), ", ", short(a))
}

// P5.3: plans that differ late, or not at all
func TestSame(t *testing.T) {
	all := commits([3]int{1, 1, 0})
	for _, x := range []struct {
		a, b api.RfPlan
		same bool
	}{
		{api.RfPlan{}, api.RfPlan{}, true},
		{api.RfPlan{}, commits([3]int{10000, 0, 1}), false},
		{commits([3]int{1, 0, 1}), commits([3]int{1, 12, 1}), true},
		{commits([3]int{1, 0, 1}), commits([3]int{1, 12, 2}), false},
		{commits([3]int{1, 0, 1}), plan(api.RfRule{Kind: api.RfSplit, First: 1, Times: 1}), false},
		{commits([3]int{1, 0, 1}), plan(api.RfRule{Kind: api.RfReserve, First: 1, Times: 1}), false},
		{commits([3]int{10000, 12, 1000}), commits([3]int{10000, 12, 0}), false},
		{commits([3]int{10000, 12, 1000}), commits([3]int{10000, 12, 999}), false},
		{commits([3]int{1, 1, 1000}, [3]int{1001, 1, 1000}, [3]int{2001, 1, 0}), all, true},
		{commits([3]int{1, 1, 1000}, [3]int{1001, 1, 999}, [3]int{2001, 1, 0}), all, false},
		{both(allBut(27720), commits([3]int{12, 12, 0})), all, true},
		{allBut(27720), all, false},
		{allBut(1), all, false},
		{lateGap(), all, false},
		{both(lateGap(), commits([3]int{4, 12, 0})), all, true}, // 49708 is 4 + 4142 * 12
		{both(lateGap(), commits([3]int{4, 12, 1000})), all, false},
		{both(allBut(21989), commits([3]int{9989, 12, 1000})), both(allBut(21989), commits([3]int{5, 12, 0})), false},
	} {
		checkSame(t, x.a, x.b, x.same)
		for kind := range api.RfKinds { // in other kinds, too
			shift := func(p api.RfPlan) api.RfPlan {
				p.Rules = slices.Clone(p.Rules)
				for i, r := range p.Rules {
					p.Rules[i].Kind = (r.Kind + kind) % api.RfKinds
				}
				return p
			}
			checkSame(t, shift(x.a), shift(x.b), x.same)
			checkSame(t, both(example(), shift(x.a)), both(example(), shift(x.b)), sameUpTo(both(example(), shift(x.a)), both(example(), shift(x.b)), far))
		}
	}
}

// rewritten returns rules that refuse nearly the same calls as r: often just the same.
func rewritten(r *rand.Rand, x api.RfRule) []api.RfRule {
	switch {
	case r.Intn(8) == 0:
		x.First += r.Intn(2)
		return []api.RfRule{x}
	case x.Every == 0:
		return []api.RfRule{{Kind: x.Kind, First: x.First, Every: 1 + r.Intn(12), Times: 1}}
	case x.Times == 0 && r.Intn(2) == 0: // some calls, then the rest
		n := 1 + r.Intn(5)
		return []api.RfRule{{Kind: x.Kind, First: x.First + n*x.Every, Every: x.Every}, {Kind: x.Kind, First: x.First, Every: x.Every, Times: n}}
	case x.Times == 0 && x.Every <= 6: // every other call
		return []api.RfRule{{Kind: x.Kind, First: x.First, Every: 2 * x.Every}, {Kind: x.Kind, First: x.First + x.Every, Every: 2 * x.Every}}
	case x.Times > 1: // the first one, then the others
		return []api.RfRule{{Kind: x.Kind, First: x.First, Times: 1}, {Kind: x.Kind, First: x.First + x.Every, Every: x.Every, Times: x.Times - 1}}
	}
	return []api.RfRule{x, x}
}

// P5.3: random plans, and those that refuse nearly the same
func TestSameOfRandomPlans(t *testing.T) {
	r := rand.New(rand.NewSource(10))
	same := 0
	for range 300 {
		a := randomPlan(r, 3, 2)
		var b api.RfPlan
		for _, x := range a.Rules {
			b.Rules = append(b.Rules, rewritten(r, x)...)
		}
		r.Shuffle(len(b.Rules), func(i, j int) { b.Rules[i], b.Rules[j] = b.Rules[j], b.Rules[i] })
		want := sameUpTo(a, b, far)
		if want {
			same++
		}
		checkSame(t, a, b, want)
		c := randomPlan(r, 3, 2)
		checkSame(t, a, c, sameUpTo(a, c, far))
		checkSame(t, a, a, true)
	}
	if same < 100 || same > 290 {
		t.Errorf("%d of 300 plans are the same", same)
	}
}

// P5.3, R2: the error for a, then that for b
func TestErrorsOfSame(t *testing.T) {
	for _, a := range wrongPlans() {
		for _, b := range wrongPlans() {
			check(t, of(refusals.Same(a.p, b.p)), of(false, a.e), "Same")
		}
	}
}

// reduced returns what Reduce returns, by its definition.
func reduced(p api.RfPlan) api.RfPlan {
	left := slices.Clone(p.Rules)
	for i := len(left) - 1; i >= 0; i-- {
		others := slices.Concat(left[:i], left[i+1:])
		needed := false
		for n := 1; n <= far && !needed; n++ {
			needed = ruleRefuses(left[i], n) && !planRefuses(api.RfPlan{Rules: others}, left[i].Kind, n)
		}
		if !needed {
			left = others
		}
	}
	return api.RfPlan{Rules: left}
}

// P5.3: which rules are removed
func TestReduce(t *testing.T) {
	for _, p := range []api.RfPlan{
		{}, example(), lateGap(), allBut(27720),
		both(lateGap(), commits([3]int{4, 12, 0})),                     // only the last one refuses the call 49708
		both(lateGap(), commits([3]int{4, 12, 0}, [3]int{4, 12, 0})),   // one of the last two refuses it
		both(lateGap(), commits([3]int{4, 12, 1000})),                  // the last one ends before
		both(lateGap(), commits([3]int{10000, 0, 1}, [3]int{5, 5, 0})), // two that are not needed
		both(commits([3]int{1, 1, 0}), lateGap()),                      // only the first one is left
		both(lateGap(), commits([3]int{1, 1, 0})),                      // only the last one is left
		commits([3]int{1, 0, 1}, [3]int{1, 0, 1}, [3]int{1, 3, 1}),
		commits([3]int{1, 2, 0}, [3]int{2, 2, 0}, [3]int{1, 1, 0}),
		commits([3]int{1, 1, 0}, [3]int{1, 2, 0}, [3]int{2, 2, 0}),
		commits([3]int{10000, 12, 1000}, [3]int{10000, 12, 0}),
		commits([3]int{10000, 12, 0}, [3]int{10000, 12, 1000}),
		commits([3]int{10, 2, 0}, [3]int{2, 4, 0}, [3]int{4, 2, 3}),
		plan(api.RfRule{Kind: 0, First: 1, Times: 1}, api.RfRule{Kind: 6, First: 1, Times: 1}, api.RfRule{Kind: 0, First: 1, Times: 1}),
	} {
		check(t, of(refusals.Reduce(p)), of(reduced(p), api.OK), "Reduce of ", short(p))
	}
}

// P5.8, P5.3: the result is the same plan, in order, and needs each of its rules
func TestReduceRandomPlans(t *testing.T) {
	r := rand.New(rand.NewSource(11))
	removed := 0
	for range 150 {
		p := randomPlan(r, 7, 2)
		for _, x := range slices.Clone(p.Rules) {
			if r.Intn(3) == 0 {
				p.Rules = append(p.Rules, rewritten(r, x)...)
			}
		}
		q, e := refusals.Reduce(p)
		check(t, of(q, e), of(reduced(p), api.OK), "Reduce of ", short(p))
		removed += len(p.Rules) - len(q.Rules)
		checkSame(t, p, q, true)
		for i := range q.Rules {
			less := api.RfPlan{Rules: slices.Concat(q.Rules[:i], q.Rules[i+1:])}
			checkSame(t, q, less, false)
		}
		again, e := refusals.Reduce(q)
		check(t, of(again, e), of(q, api.OK), "Reduce of what is reduced")
	}
	if removed < 100 {
		t.Errorf("only %d rules are removed", removed)
	}
}

// P5.8: rules of all sizes
func TestReduceLargePlans(t *testing.T) {
	r := rand.New(rand.NewSource(12))
	for range 20 {
		p := anyPlan(r, 25)
		p = both(p, p)
		q, e := refusals.Reduce(p)
		if e != api.OK || len(q.Rules) > len(p.Rules)/2 {
			t.Fatalf("Reduce of %s: %s, %d", short(p), short(q), e)
		}
		checkSame(t, p, q, true)
	}
}

// P5.8: two lists of rules, in either order
func TestOrderOfRules(t *testing.T) {
	r := rand.New(rand.NewSource(13))
	for range 100 {
		a, b := anyPlan(r, 25), randomPlan(r, 25, api.RfKinds)
		checkSame(t, both(a, b), both(b, a), true)
	}
}
