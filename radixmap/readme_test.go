package radixmap_test

import (
	"testing"

	"polder/api"
	"polder/radixmap"
)

// The example of README.md
func TestReadmeExample(t *testing.T) {
	d := api.RmDesc{Owner: 5, State: 1, Stamp: 3}
	check(t, of(radixmap.Pack(d)), of(uint64(401419), api.OK), "Pack")
	m := start(t, 4)
	check(t, m.Set(7, 9, d), api.OK, "Set")
	check(t, m.Nodes(), 4, "Nodes")
	check(t, m.Set(64, 65, d), api.ErrFull, "Set")
	check(t, m.Clear(7, 8), api.OK, "Clear")
	check(t, of(m.Get(7)), of(api.RmDesc{}, api.ErrNone), "Get")
	check(t, of(m.Owned(5)), of([]int{8}, api.OK), "Owned")
	check(t, m.Runs(), []api.RmRun{{From: 8, To: 9, Desc: d}}, "Runs")
	check(t, collect(m.Walk(0)), []met{{8, d}}, "Walk")
	checkState(t, load(t, m.Save()), m.Save(), "Load")
}
