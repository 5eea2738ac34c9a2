package clock_test

import (
	"testing"

	"polder/api"
	"polder/clock"
)

// The example of README.md
func TestReadmeExample(t *testing.T) {
	c, e := clock.Set(api.CkClock{Now: 5}, 7)
	check(t, of(c, e), of(at(7), api.OK), "Set")
	check(t, of(clock.Set(c, 6)), of(at(7), api.OK), "Set")
	check(t, of(clock.Age(c, 5)), of(2, api.OK), "Age")
	check(t, of(clock.Old(c, []int64{1, 7, 3}, 4)), of([]int{0, 2}, api.OK), "Old")
	p, e := clock.Add(api.CkPlan{}, api.CkAlarm{Name: "b", At: 15})
	check(t, e, api.OK, "Add")
	p, e = clock.Add(p, api.CkAlarm{Name: "a", At: 5, Every: 10})
	check(t, of(p, e), of(example(), api.OK), "Add")
	check(t, of(clock.Next(p)), of(api.CkRing{Name: "a", At: 5}, api.OK), "Next")
	check(t, of(clock.Count(p, 1000000000000)), of(100000000001, api.OK), "Count")
	rings, p, e := clock.Run(p, 25)
	check(t, of(rings, e), of([]api.CkRing{{Name: "a", At: 5}, {Name: "a", At: 15}, {Name: "b", At: 15}, {Name: "a", At: 25}}, api.OK), "Run")
	check(t, p, plan(alarm("a", 35, 10)), "Run")
	p, e = clock.Cancel(p, "a")
	check(t, of(p, e), of(api.CkPlan{}, api.OK), "Cancel")
	check(t, of(clock.Next(p)), of(api.CkRing{}, api.ErrNone), "Next")
	check(t, of(clock.Span(90061)), of("1d1h1m1s", api.OK), "Span")
	check(t, of(clock.ParseSpan("11574074d1h46m40s")), of(1000000000000, api.OK), "ParseSpan")
	check(t, of(clock.ParseSpan("1h60m")), of(0, api.ErrForm), "ParseSpan")
}
