package vmpage_test

import (
	"testing"

	"polder/api"
	"polder/vmpage"
)

// The example of README.md
func TestReadmeExample(t *testing.T) {
	s := system(t, api.RfPlan{Rules: []api.RfRule{{Kind: api.RfCommit, First: 2, Times: 1}}})
	check(t, s.Reserve(0, 32), api.OK, "Reserve")
	check(t, s.Commit(0, 16), api.OK, "Commit")
	check(t, s.Commit(16, 1), vmpage.ErrRefused, "Commit")
	check(t, s.Write(64, 7), api.OK, "Write")
	check(t, s.Join(0), api.OK, "Join")
	check(t, s.Decommit(1, 1), api.ErrDown, "Decommit")
	check(t, of(s.Read(64)), of(byte(7), api.OK), "Read")
	check(t, kindOf(s, 1), answer{[2]any{api.VmCommitted, true}, api.OK}, "Kind")
	check(t, of(s.Counts()), of(api.VmCounts{Free: 992, Reserved: 16, Committed: 16, Huge: 1}, api.OK), "Counts")
	checkState(t, load(t, s.Save()), s.Save(), "Load")
}
