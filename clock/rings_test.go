package clock_test

import (
	"math/rand"
	"slices"
	"testing"

	"polder/api"
	"polder/clock"
)

// P9.4
func TestNext(t *testing.T) {
	for _, x := range []struct {
		p    api.CkPlan
		want answer
	}{
		{example(), of(api.CkRing{Name: "a", At: 5}, api.OK)},
		{api.CkPlan{}, of(api.CkRing{}, api.ErrNone)},
		{plan(alarm("a", 0, 0)), of(api.CkRing{Name: "a"}, api.OK)},
		{plan(alarm("a", last, last)), of(api.CkRing{Name: "a", At: last}, api.OK)},
		{plan(alarm("a", 5, 1), alarm("y", 4, 9), alarm("z", 4, 1)), of(api.CkRing{Name: "y", At: 4}, api.OK)},
		{plan(alarm("B", 4, 0), alarm("a", 4, 0)), of(api.CkRing{Name: "B", At: 4}, api.OK)},
		{plan(alarm("a", 3, 0), alarm("b", 2, 0), alarm("c", 1, 0)), of(api.CkRing{Name: "c", At: 1}, api.OK)},
		{many(50), of(api.CkRing{Name: "n00"}, api.OK)},
	} {
		check(t, of(clock.Next(x.p)), x.want, "Next of ", x.p)
	}
}

// P9.4: rings of one alarm, up to before, at and after its times
func TestRunOneAlarm(t *testing.T) {
	for _, x := range []struct {
		a     api.CkAlarm
		until int64
		times []int64
		rest  api.CkPlan
	}{
		{alarm("a", 5, 10), 4, nil, plan(alarm("a", 5, 10))},
		{alarm("a", 5, 10), 5, []int64{5}, plan(alarm("a", 15, 10))},
		{alarm("a", 5, 10), 14, []int64{5}, plan(alarm("a", 15, 10))},
		{alarm("a", 5, 10), 15, []int64{5, 15}, plan(alarm("a", 25, 10))},
		{alarm("a", 5, 0), 4, nil, plan(alarm("a", 5, 0))},
		{alarm("a", 5, 0), 5, []int64{5}, api.CkPlan{}},
		{alarm("a", 5, 0), last, []int64{5}, api.CkPlan{}},
		{alarm("a", 0, 0), 0, []int64{0}, api.CkPlan{}},
		{alarm("a", 0, 1), 0, []int64{0}, plan(alarm("a", 1, 1))},
		{alarm("a", 0, last), last - 1, []int64{0}, plan(alarm("a", last, last))},
		{alarm("a", 0, last), last, []int64{0, last}, api.CkPlan{}},
		{alarm("a", 1, last), 1, []int64{1}, api.CkPlan{}},
		{alarm("a", 1, last), last, []int64{1}, api.CkPlan{}},
		{alarm("a", last, last), last, []int64{last}, api.CkPlan{}},
		{alarm("a", last, last), last - 1, nil, plan(alarm("a", last, last))},
		{alarm("a", last, 1), last, []int64{last}, api.CkPlan{}},
		{alarm("a", last, 0), 0, nil, plan(alarm("a", last, 0))},
		{alarm("a", last-5, 3), last, []int64{last - 5, last - 2}, api.CkPlan{}},
		{alarm("a", last-5, 3), last - 2, []int64{last - 5, last - 2}, api.CkPlan{}},
		{alarm("a", last-5, 3), last - 3, []int64{last - 5}, plan(alarm("a", last-2, 3))},
		{alarm("a", last-6, 3), last - 1, []int64{last - 6, last - 3}, plan(alarm("a", last, 3))},
	} {
		var rings []api.CkRing
		for _, when := range x.times {
			rings = append(rings, api.CkRing{Name: "a", At: when})
		}
		check(t, run(plan(x.a), x.until), of(ran{rings, x.rest}, api.OK), "Run of ", x.a, " until ", x.until)
		check(t, of(clock.Count(plan(x.a), x.until)), of(len(rings), api.OK), "Count of ", x.a, " until ", x.until)
	}
}

// P9.4: the example, and rings at the same time
func TestRun(t *testing.T) {
	ring := func(name string, at int64) api.CkRing { return api.CkRing{Name: name, At: at} }
	check(t, run(example(), 25), of(ran{[]api.CkRing{ring("a", 5), ring("a", 15), ring("b", 15), ring("a", 25)}, plan(alarm("a", 35, 10))}, api.OK), "Run of P until 25")
	check(t, run(api.CkPlan{}, last), of(ran{}, api.OK), "Run of no alarms")
	p := plan(alarm("B", 6, 0), alarm("a", 0, 2), alarm("b", 0, 3), alarm("c", 8, 0))
	want := []api.CkRing{ring("a", 0), ring("b", 0), ring("a", 2), ring("b", 3), ring("a", 4), ring("B", 6), ring("a", 6), ring("b", 6)}
	check(t, run(p, 6), of(ran{want, plan(alarm("a", 8, 2), alarm("b", 9, 3), alarm("c", 8, 0))}, api.OK), "Run until 6")
}

// P9.4, P9.8: random plans, against all rings collected and sorted
func TestRunRandomPlans(t *testing.T) {
	r := rand.New(rand.NewSource(5))
	for i := range 6000 {
		base := []int64{0, 0, last - 20, last - r.Int63n(40), r.Int63n(last)}[i%5]
		p := randomPlan(r, base)
		until := min(last, max(0, base-3+r.Int63n(40)))
		rings := ringsOf(p, until)
		check(t, run(p, until), of(ran{rings, restOf(p, until)}, api.OK), "Run of ", p, " until ", until)
		check(t, of(clock.Count(p, until)), of(len(rings), api.OK), "Count of ", p, " until ", until)
		next, e := clock.Next(p)
		switch {
		case len(p.Alarms) == 0:
			check(t, e, api.ErrNone, "Next of no alarms")
		case len(rings) > 0:
			check(t, of(next, e), of(rings[0], api.OK), "Next of ", p)
		default:
			check(t, e, api.OK, "Next of ", p)
			check(t, next.At > until, true, "Next of ", p)
		}
	}
}

// P9.4: 1000 rings are returned, 1001 are not
func TestRunManyRings(t *testing.T) {
	one := plan(alarm("a", 1, 1), alarm("b", 500, 0))
	for _, x := range []struct {
		p     api.CkPlan
		until int64
		rings int
	}{
		{one, 998, 999}, {one, 999, 1000}, {one, 1000, 1001}, {one, last, last + 1},
		{plan(alarm("a", 0, 1)), 999, 1000}, {plan(alarm("a", 0, 1)), 1000, 1001},
		{plan(alarm("a", last-999, 1)), last, 1000}, {plan(alarm("a", last-1000, 1)), last, 1001},
		{many(50), 44, 45 * 46 / 2}, {many(50), 45, 46 * 47 / 2}, {many(50), last, 50*(last+1) - 49*50/2},
		{plan(alarm("a", 0, 1), alarm("b", 0, 1), alarm("c", 0, 1), alarm("d", 0, 1)), 249, 1000},
		{plan(alarm("a", 0, 1), alarm("b", 0, 1), alarm("c", 0, 1), alarm("d", 0, 1), alarm("e", 250, 0)), 249, 1000},
		{plan(alarm("a", 0, 1), alarm("b", 0, 1), alarm("c", 0, 1), alarm("d", 0, 1), alarm("e", 249, 0)), 249, 1001},
	} {
		check(t, of(clock.Count(x.p, x.until)), of(x.rings, api.OK), "Count of ", x.p, " until ", x.until)
		if x.rings > 1000 {
			check(t, run(x.p, x.until), of(ran{}, api.ErrLong), "Run of ", x.p, " until ", x.until)
			continue
		}
		got, rest, e := clock.Run(x.p, x.until)
		check(t, of(len(got), e), of(x.rings, api.OK), "Run of ", x.p, " until ", x.until)
		if !slices.Equal(got, ringsOf(x.p, x.until)) {
			t.Errorf("Run of %v until %d: %v", x.p, x.until, got)
		}
		check(t, rest, restOf(x.p, x.until), "Run of ", x.p, " until ", x.until)
	}
}

// P9.4: counts that are great
func TestCount(t *testing.T) {
	full := many(50)
	for i := range full.Alarms {
		full.Alarms[i].At = 0
	}
	for _, x := range []struct {
		p           api.CkPlan
		until, want int64
	}{
		{example(), last, 100000000001},
		{example(), last - 6, 100000000000},
		{example(), last - 5, 100000000001},
		{plan(alarm("a", 0, 1)), last, last + 1},
		{full, last, 50 * (last + 1)},
		{plan(alarm("a", 1, 3), alarm("b", 2, 3), alarm("c", 3, 3)), last, last},
		{api.CkPlan{}, last, 0},
	} {
		check(t, of(clock.Count(x.p, x.until)), of(x.want, api.OK), "Count of ", x.p, " until ", x.until)
	}
}

// P9.4, R2: ErrRange comes before ErrLong
func TestErrorsOfTimes(t *testing.T) {
	for _, p := range []api.CkPlan{{}, example(), many(50), plan(alarm("a", 0, 1)), plan(alarm("a", last, 0))} {
		for _, until := range edges {
			if valid(until) {
				continue
			}
			check(t, run(p, until), of(ran{}, api.ErrRange), "Run of ", p, " until ", until)
			check(t, of(clock.Count(p, until)), of(0, api.ErrRange), "Count of ", p, " until ", until)
		}
	}
}

// P9.7: in two runs there are the same rings as in one
func TestRunInParts(t *testing.T) {
	r := rand.New(rand.NewSource(6))
	for i := range 3000 {
		base := []int64{0, last - r.Int63n(40), r.Int63n(last)}[i%3]
		p := randomPlan(r, base)
		to := min(last, base+r.Int63n(30))
		by := max(0, to-r.Int63n(30))
		if r.Intn(10) == 0 {
			by = r.Int63n(to + 1)
		}
		first, between, e := clock.Run(p, by)
		check(t, e, api.OK, "Run of ", p, " until ", by)
		check(t, of(clock.Check(between)), of(0, api.OK), "Check of ", between)
		second, rest, e := clock.Run(between, to)
		check(t, run(p, to), of(ran{slices.Concat(first, second), rest}, e), "Run of ", p, " until ", by, " and ", to)
	}
}

// P9.7: the number of rings of one alarm
func TestCountOneAlarm(t *testing.T) {
	r := rand.New(rand.NewSource(7))
	for range 20000 {
		a := alarm("a", r.Int63n(last+1), 1+r.Int63n(last))
		if r.Intn(2) == 0 {
			a.Every = 1 + r.Int63n(1000)
		}
		until := r.Int63n(last + 1)
		want := int64(0)
		if a.At <= until {
			want = (until-a.At)/a.Every + 1
		}
		check(t, of(clock.Count(plan(a), until)), of(want, api.OK), "Count of ", a, " until ", until)
		if want > 1000 {
			check(t, run(plan(a), until), of(ran{}, api.ErrLong), "Run of ", a, " until ", until)
			continue
		}
		rings, rest, e := clock.Run(plan(a), until)
		check(t, of(len(rings), e), of(want, api.OK), "Run of ", a, " until ", until)
		if next := a.At + want*a.Every; next <= last {
			check(t, rest, plan(alarm("a", next, a.Every)), "Run of ", a, " until ", until)
		} else {
			check(t, rest, api.CkPlan{}, "Run of ", a, " until ", until)
		}
	}
}
