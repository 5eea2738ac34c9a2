package links_test

import (
	"reflect"
	"slices"
	"testing"

	"polder/api"
	"polder/links"
)

// The example of README.md
func TestReadmeExample(t *testing.T) {
	p := pool(t, 10, 2)
	checkAnswer(t, of(p.Push(0, "b", false)), answer{0, api.OK}, "Push")
	checkAnswer(t, of(p.Push(0, "a", true)), answer{1, api.OK}, "Push")
	checkAnswer(t, of(p.After(1, "x")), answer{2, api.OK}, "After")
	checkAnswer(t, of(p.Take(0)), answer{"b", api.OK}, "Take")
	if l := walk(p, 0, false); !slices.Equal(l, []met{{1, "a"}, {2, "x"}}) {
		t.Errorf("All: %v", l)
	}
	if q, e := links.Load(p.Save()); e != api.OK || !reflect.DeepEqual(q.Save(), p.Save()) {
		t.Errorf("Load: %d", e)
	}
}
