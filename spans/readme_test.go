package spans_test

import (
	"slices"
	"testing"

	"polder/api"
	"polder/spans"
)

// The example of README.md
func TestReadmeExample(t *testing.T) {
	s, e := spans.Of([]api.SpSpan{{Page: 6, Pages: 4}, {Page: 2, Pages: 5}})
	if !slices.Equal(s, list(sp(2, 8))) || e != api.OK {
		t.Fatalf("Of: %v, %d", s, e)
	}
	s, e = spans.Minus(s, []api.SpSpan{{Page: 5, Pages: 1}})
	if !slices.Equal(s, list(sp(2, 3), sp(6, 4))) || e != api.OK {
		t.Fatalf("Minus: %v, %d", s, e)
	}
	if p, e := spans.First(s, 2, 4); p != 8 || e != api.OK {
		t.Errorf("First: %d, %d", p, e)
	}
	if l := all(t, spans.Pieces(s, 8)); !slices.Equal(l, list(sp(2, 3), sp(6, 2), sp(8, 2))) {
		t.Errorf("Pieces: %v", l)
	}
}
