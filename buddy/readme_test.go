package buddy_test

import (
	"testing"

	"polder/api"
)

// The example of README.md
func TestReadmeExample(t *testing.T) {
	b := start(t, 4)
	check(t, of(b.Alloc(1)), of(0, api.OK), "Alloc(1)")
	check(t, of(b.Alloc(0)), of(2, api.OK), "Alloc(0)")
	check(t, b.AllocAt(8, 2), api.OK, "AllocAt(8, 2)")
	check(t, b.AllocAt(10, 1), api.ErrTwice, "AllocAt(10, 1)")
	check(t, of(b.Owner(11)), of(api.BuBlock{Page: 8, Order: 2}, api.OK), "Owner(11)")
	check(t, free(t, b), []api.BuBlock{{Page: 3}, {Page: 4, Order: 2}, {Page: 12, Order: 2}}, "Blocks")
	check(t, of(b.Largest()), of(2, api.OK), "Largest")
	check(t, of(b.Room(1)), of(4, api.OK), "Room(1)")
	check(t, of(b.Alloc(3)), of(0, api.ErrFull), "Alloc(3)")
	check(t, b.Free(8, 2), api.OK, "Free(8, 2)")
	check(t, of(b.Alloc(3)), of(8, api.OK), "Alloc(3)")
	checkState(t, load(t, b.Save()), b.Save(), "Load")
}
