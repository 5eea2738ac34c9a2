package clock_test

import (
	"math"
	"math/rand"
	"regexp"
	"slices"
	"sort"
	"strings"
	"testing"

	"polder/api"
	"polder/clock"
)

var nameForm = regexp.MustCompile(`^[a-zA-Z][a-zA-Z0-9_]{0,15}\z`)

// errorOf returns the error of an alarm that stands alone.
func errorOf(a api.CkAlarm) api.Errno {
	switch {
	case !nameForm.MatchString(a.Name):
		return api.ErrForm
	case !valid(a.At) || !valid(a.Every):
		return api.ErrRange
	}
	return api.OK
}

// checked returns what Check returns, by its definition.
func checked(p api.CkPlan) (int, api.Errno) {
	if len(p.Alarms) > 50 {
		return 0, api.ErrLong
	}
	for i, a := range p.Alarms {
		e := errorOf(a)
		if e == api.OK && i > 0 {
			e = [3]api.Errno{api.OK, api.ErrTwice, api.ErrForm}[1+strings.Compare(p.Alarms[i-1].Name, a.Name)]
		}
		if e != api.OK {
			return i, e
		}
	}
	return 0, api.OK
}

// P9.2
func TestCheck(t *testing.T) {
	check(t, of(clock.Check(example())), of(0, api.OK), "Check of P")
	check(t, of(clock.Check(api.CkPlan{})), of(0, api.OK), "Check of no alarms")
	check(t, of(clock.Check(many(50))), of(0, api.OK), "Check of 50 alarms")
	for _, x := range wrongPlans() {
		check(t, of(clock.Check(x.p)), of(x.index, x.e), "Check of ", x.p)
	}
}

// P9.2: each error, and which comes first
func TestCheckOneAlarm(t *testing.T) {
	for _, name := range []string{"a", "Z", "a_9", "abcdefghijklmnop", "", "_a", "9a", "abcdefghijklmnopq", "a b", "a-", "é", "a\x00", "a\n", strings.Repeat("a", 100000)} {
		for _, when := range edges {
			for _, every := range edges {
				a := alarm(name, when, every)
				check(t, of(clock.Check(plan(a))), of(0, errorOf(a)), "Check of ", a)
			}
		}
	}
}

// P9.2: all plans of up to three of these alarms
func TestCheckAllSmallPlans(t *testing.T) {
	alarms := []api.CkAlarm{alarm("a", 1, 0), alarm("a", last, last), alarm("B", 1, 2), alarm("a_", 0, 0), alarm("aZ", 3, 3), alarm("b", -1, 0), alarm("b", 0, last+1), alarm("a", math.MinInt64, 1), alarm("2", 0, 0), alarm("", -1, 0)}
	for _, a := range alarms {
		for _, b := range alarms {
			for _, c := range alarms {
				p := plan(a, b, c)
				check(t, of(clock.Check(p)), of(checked(p)), "Check of ", p)
				p = plan(a, b)
				check(t, of(clock.Check(p)), of(checked(p)), "Check of ", p)
			}
		}
	}
}

// P9.2: names in byte order, not in that of letters or lengths
func TestOrderOfNames(t *testing.T) {
	for i, a := range names {
		for j, b := range names {
			want := of(0, api.OK)
			switch {
			case i == j:
				want = of(1, api.ErrTwice)
			case i > j:
				want = of(1, api.ErrForm)
			}
			check(t, of(clock.Check(plan(alarm(a, 0, 0), alarm(b, 0, 0)))), want, "Check of ", a, ", ", b)
		}
	}
}

// P9.2, R2: the error of Check comes first, whatever else is wrong
func TestErrorOfCheckIsFirst(t *testing.T) {
	none := api.CkPlan{}
	for _, x := range wrongPlans() {
		for _, a := range []api.CkAlarm{alarm("x", 1, 1), alarm("a", 1, 1), alarm("", 0, 0), alarm("x", -1, 0)} {
			check(t, of(clock.Add(x.p, a)), of(none, x.e), "Add of ", a, " to ", x.p)
			check(t, of(clock.Cancel(x.p, a.Name)), of(none, x.e), "Cancel of ", a.Name, " in ", x.p)
		}
		check(t, of(clock.Next(x.p)), of(api.CkRing{}, x.e), "Next of ", x.p)
		for _, until := range edges {
			check(t, run(x.p, until), of(ran{}, x.e), "Run of ", x.p, " until ", until)
			check(t, of(clock.Count(x.p, until)), of(0, x.e), "Count of ", x.p, " until ", until)
		}
	}
}

// P9.3
func TestAdd(t *testing.T) {
	b, p := alarm("b", 15, 0), example()
	for _, x := range []struct {
		p    api.CkPlan
		a    api.CkAlarm
		want api.CkPlan
		e    api.Errno
	}{
		{api.CkPlan{}, b, plan(b), api.OK},
		{plan(b), alarm("a", 5, 10), p, api.OK},
		{p, alarm("B", last, 0), plan(alarm("B", last, 0), p.Alarms[0], b), api.OK},
		{p, alarm("a0", 0, last), plan(p.Alarms[0], alarm("a0", 0, last), b), api.OK},
		{p, alarm("b0", 1, 1), plan(p.Alarms[0], b, alarm("b0", 1, 1)), api.OK},
		{p, alarm("a", 1, 0), api.CkPlan{}, api.ErrTwice},
		{p, alarm("b", 15, 0), api.CkPlan{}, api.ErrTwice},
		{p, alarm("", 1, 0), api.CkPlan{}, api.ErrForm},
		{p, alarm("1", -1, -1), api.CkPlan{}, api.ErrForm},
		{p, alarm("a", -1, 0), api.CkPlan{}, api.ErrRange},
		{p, alarm("c", last+1, 0), api.CkPlan{}, api.ErrRange},
		{p, alarm("c", 0, -1), api.CkPlan{}, api.ErrRange},
		{p, alarm("c", 0, last+1), api.CkPlan{}, api.ErrRange},
		{many(49), alarm("x", 0, 0), plan(append(many(49).Alarms, alarm("x", 0, 0))...), api.OK},
		{many(50), alarm("x", 0, 0), api.CkPlan{}, api.ErrFull},
		{many(50), alarm("n07", 0, 0), api.CkPlan{}, api.ErrTwice},
		{many(50), alarm("n07", -1, 0), api.CkPlan{}, api.ErrRange},
		{many(50), alarm("0", -1, 0), api.CkPlan{}, api.ErrForm},
	} {
		check(t, of(clock.Add(x.p, x.a)), of(x.want, x.e), "Add of ", x.a, " to ", x.p)
	}
}

// P9.3
func TestCancel(t *testing.T) {
	p := plan(alarm("a", 5, 10), alarm("aa", 0, 0), alarm("b", 15, 0))
	for name, want := range map[string]answer{
		"a":     of(plan(p.Alarms[1], p.Alarms[2]), api.OK),
		"aa":    of(plan(p.Alarms[0], p.Alarms[2]), api.OK),
		"b":     of(plan(p.Alarms[0], p.Alarms[1]), api.OK),
		"c":     of(api.CkPlan{}, api.ErrNone),
		"A":     of(api.CkPlan{}, api.ErrNone),
		"aaa":   of(api.CkPlan{}, api.ErrNone),
		"a\x00": of(api.CkPlan{}, api.ErrNone),
		"":      of(api.CkPlan{}, api.ErrNone),
		"\xff":  of(api.CkPlan{}, api.ErrNone),
	} {
		check(t, of(clock.Cancel(p, name)), want, "Cancel of ", name)
	}
	check(t, of(clock.Cancel(plan(p.Alarms[0]), "a")), of(api.CkPlan{}, api.OK), "Cancel of the only alarm")
	check(t, of(clock.Cancel(api.CkPlan{}, "a")), of(api.CkPlan{}, api.ErrNone), "Cancel in a plan without alarms")
	check(t, of(clock.Cancel(many(50), "n49")), of(many(49), api.OK), "Cancel of the last one of 50")
}

// P9.3: random calls, with a map of alarms as the model
func TestAddAndCancel(t *testing.T) {
	r := rand.New(rand.NewSource(3))
	for range 200 {
		var p api.CkPlan
		model := map[string]api.CkAlarm{}
		for range 120 {
			name := names[r.Intn(len(names))]
			a := alarm(name, r.Int63n(100), r.Int63n(3))
			_, there := model[name]
			var q api.CkPlan
			var e, want api.Errno
			if r.Intn(3) > 0 {
				q, e = clock.Add(p, a)
				if there {
					want = api.ErrTwice
				} else {
					model[name] = a
				}
			} else {
				q, e = clock.Cancel(p, name)
				if !there {
					want = api.ErrNone
				}
				delete(model, name)
			}
			check(t, e, want, "an error")
			if e != api.OK {
				check(t, q, api.CkPlan{}, "a plan with an error")
				continue
			}
			p = q
			check(t, p, planOf(model), "a plan")
			check(t, of(clock.Check(p)), of(0, api.OK), "Check of ", p)
		}
	}
}

// planOf returns the plan with the alarms of a map.
func planOf(model map[string]api.CkAlarm) api.CkPlan {
	var p api.CkPlan
	for _, a := range model {
		p.Alarms = append(p.Alarms, a)
	}
	sort.Slice(p.Alarms, func(i, j int) bool { return p.Alarms[i].Name < p.Alarms[j].Name })
	return p
}

// P9.3: 50 alarms come in any order
func TestAddInAnyOrder(t *testing.T) {
	r := rand.New(rand.NewSource(4))
	for range 20 {
		alarms := many(50).Alarms
		r.Shuffle(len(alarms), func(i, j int) { alarms[i], alarms[j] = alarms[j], alarms[i] })
		var p api.CkPlan
		for _, a := range alarms {
			q, e := clock.Add(p, a)
			check(t, e, api.OK, "Add of ", a)
			p = q
		}
		check(t, p, many(50), "a plan")
		for i := range slices.Backward(alarms) {
			q, e := clock.Cancel(p, alarms[i].Name)
			check(t, of(len(q.Alarms), e), of(i, api.OK), "Cancel of ", alarms[i])
			p = q
		}
	}
}
