package refusals_test

import (
	"testing"

	"polder/api"
	"polder/refusals"
)

// The example of README.md
func TestReadmeExample(t *testing.T) {
	p, line, e := refusals.Parse("commit 3 every 2\ncommit 4\n")
	check(t, parsed{p, line, e}, parsed{commits([3]int{3, 2, 0}, [3]int{4, 0, 1}), 0, api.OK}, "Parse")
	check(t, of(refusals.Refused(p, api.RfCommit, 5)), of(true, api.OK), "Refused")
	check(t, of(refusals.After(p, api.RfCommit, 5)), of(7, api.OK), "After")
	s, e := refusals.Start(p)
	check(t, e, api.OK, "Start")
	s, is, e := refusals.Next(s, api.RfCommit)
	check(t, of(is, e), of(false, api.OK), "Next")
	rest, e := refusals.Rest(s)
	check(t, e, api.OK, "Rest")
	check(t, of(refusals.Print(rest)), of("commit 2 every 2\ncommit 3\n", api.OK), "Print")
}
