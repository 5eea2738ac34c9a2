package clock_test

import (
	"cmp"
	"fmt"
	"math"
	"math/rand"
	"slices"
	"sort"
	"strings"
	"testing"

	"polder/api"
	"polder/clock"
)

// last is the last time.
const last = 1000000000000

// edges are numbers at the ends of the times, and those that overflow easily.
var edges = []int64{math.MinInt64, math.MinInt64 + 1, -last, -1, 0, 1, 2, last - 1, last, last + 1, math.MaxInt64 - 1, math.MaxInt64}

// valid reports whether t is a time.
func valid(t int64) bool {
	return 0 <= t && t <= last
}

// alarm returns an alarm.
func alarm(name string, at, every int64) api.CkAlarm {
	return api.CkAlarm{Name: name, At: at, Every: every}
}

// plan returns the plan with these alarms, in this order.
func plan(alarms ...api.CkAlarm) api.CkPlan {
	return api.CkPlan{Alarms: alarms}
}

// example is the plan P of the document's examples.
func example() api.CkPlan {
	return plan(alarm("a", 5, 10), alarm("b", 15, 0))
}

// many returns a plan of n alarms with the names n00, n01 and so on.
func many(n int) api.CkPlan {
	var p api.CkPlan
	for i := range n {
		p.Alarms = append(p.Alarms, alarm(fmt.Sprintf("n%02d", i), int64(i), 1))
	}
	return p
}

// timesOf returns the times up to until at which a rings, one by one.
func timesOf(a api.CkAlarm, until int64) []int64 {
	var times []int64
	for t := a.At; t <= until && t <= last; t += a.Every {
		times = append(times, t)
		if a.Every == 0 {
			break
		}
	}
	return times
}

// ringsOf returns the rings of p up to until, all of them collected and sorted.
func ringsOf(p api.CkPlan, until int64) []api.CkRing {
	var all []api.CkRing
	for _, a := range p.Alarms {
		for _, t := range timesOf(a, until) {
			all = append(all, api.CkRing{Name: a.Name, At: t})
		}
	}
	sort.Slice(all, func(i, j int) bool {
		return cmp.Or(cmp.Compare(all[i].At, all[j].At), strings.Compare(all[i].Name, all[j].Name)) < 0
	})
	return all
}

// restOf returns the plan for the time after until.
func restOf(p api.CkPlan, until int64) api.CkPlan {
	var rest api.CkPlan
	for _, a := range p.Alarms {
		t := a.At
		for t <= until && a.Every > 0 {
			t += a.Every
		}
		if t > until && t <= last {
			rest.Alarms = append(rest.Alarms, alarm(a.Name, t, a.Every))
		}
	}
	return rest
}

// names are those of random plans, ascending.
var names = []string{"A", "B", "B_", "Ba", "a", "a0", "a00", "aZ", "a_", "aa", "ab", "b", "b2", "z", "zzzzzzzzzzzzzzzz"}

// randomPlan returns a plan whose alarms ring near the time base.
func randomPlan(r *rand.Rand, base int64) api.CkPlan {
	var p api.CkPlan
	one := r.Intn(4)
	for _, name := range names {
		if r.Intn(4) > one {
			continue
		}
		a := alarm(name, min(last, base+r.Int63n(12)), r.Int63n(6))
		if r.Intn(10) == 0 {
			a.Every = last - r.Int63n(3)
		}
		p.Alarms = append(p.Alarms, a)
	}
	return p
}

// answer is the results of a call.
type answer struct {
	value any
	e     api.Errno
}

// of makes an answer of what a function has returned.
func of[T any](value T, e api.Errno) answer {
	return answer{value, e}
}

// ran is what Run returns beside an error.
type ran struct {
	rings []api.CkRing
	rest  api.CkPlan
}

// run calls Run.
func run(p api.CkPlan, until int64) answer {
	rings, rest, e := clock.Run(p, until)
	return of(ran{rings, rest}, e)
}

// check compares two values, which are printed, so that nil and empty lists are equal.
func check(t *testing.T, got, want any, what ...any) {
	t.Helper()
	g, w := fmt.Sprint(got), fmt.Sprint(want)
	if g != w {
		t.Fatalf("%.300s: %.300s, want %.300s", fmt.Sprint(what...), g, w)
	}
}

// wrongPlan is a plan that is not valid, with what Check returns of it.
type wrongPlan struct {
	p     api.CkPlan
	index int
	e     api.Errno
}

// wrongPlans are plans that are not valid.
func wrongPlans() []wrongPlan {
	return []wrongPlan{
		{plan(alarm("", 0, 0)), 0, api.ErrForm},
		{plan(alarm("1", -1, -1)), 0, api.ErrForm},
		{plan(alarm("a", -1, 0)), 0, api.ErrRange},
		{plan(alarm("a", 0, last+1)), 0, api.ErrRange},
		{plan(alarm("a", 0, 0), alarm("a", 1, 1)), 1, api.ErrTwice},
		{plan(alarm("a", 0, 0), alarm("A", 1, 1)), 1, api.ErrForm},
		{plan(alarm("a", 0, 0), alarm("b", 0, 0), alarm("c", math.MinInt64, 0), alarm("b", 0, 0)), 2, api.ErrRange},
		{many(51), 0, api.ErrLong},
		{plan(slices.Repeat([]api.CkAlarm{alarm("", -1, -1)}, 51)...), 0, api.ErrLong},
		{plan(append(many(49).Alarms, alarm("n48", 0, 0))...), 49, api.ErrTwice},
	}
}
