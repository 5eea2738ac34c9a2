package spans_test

import (
	"iter"
	"slices"
	"testing"

	"polder/api"
	"polder/spans"
)

// all returns what is in a sequence, or fails if it is nil.
func all[T any](t *testing.T, q iter.Seq[T]) []T {
	t.Helper()
	if q == nil {
		t.Fatal("the sequence is nil")
	}
	return slices.Collect(q)
}

// The document's example of P3.5
func TestPiecesExample(t *testing.T) {
	if l := all(t, spans.Pieces(example(), 16)); !slices.Equal(l, list(sp(4, 4), sp(16, 16), sp(32, 4))) {
		t.Errorf("Pieces(S, 16): %v", l)
	}
}

// P3.5 for Pages
func TestPages(t *testing.T) {
	for _, s := range samples() {
		var want []int
		for p, in := range tableOf(s) {
			if in {
				want = append(want, p)
			}
		}
		if l := all(t, spans.Pages(s)); !slices.Equal(l, want) {
			t.Fatalf("Pages(%v): %v", s, l)
		}
	}
}

// piecesOf returns the pieces of a table, made page by page.
func piecesOf(in *table, size int) []api.SpSpan {
	var l []api.SpSpan
	for p := range in {
		switch {
		case !in[p]:
		case p > 0 && in[p-1] && p%size != 0:
			l[len(l)-1].Pages++
		default:
			l = append(l, sp(p, 1))
		}
	}
	return l
}

// P3.5 for Pieces: each size, whether it is a power of two or not
func TestPieces(t *testing.T) {
	for _, s := range [][]api.SpSpan{example(), whole(), list(sp(1, 1022)), list(sp(3, 500), sp(600, 300), sp(1000, 24)), alternate(1)} {
		in := tableOf(s)
		for size := 1; size <= 1024; size++ {
			if l := all(t, spans.Pieces(s, size)); !slices.Equal(l, piecesOf(in, size)) {
				t.Fatalf("Pieces(%v, %d): %v", s, size, l)
			}
		}
	}
	for _, s := range samples() {
		in := tableOf(s)
		for _, size := range []int{1, 2, 3, 5, 7, 16, 100, 1023, 1024} {
			if l := all(t, spans.Pieces(s, size)); !slices.Equal(l, piecesOf(in, size)) {
				t.Fatalf("Pieces(%v, %d): %v", s, size, l)
			}
		}
	}
}

// P3.5: no set, or no size: nothing is in the sequence, which is not nil
func TestWalksOfNothing(t *testing.T) {
	for _, s := range append(noSets(), nil, list()) {
		if l := all(t, spans.Pages(s)); len(l) != 0 {
			t.Errorf("Pages(%.40v): %v", s, l)
		}
		for _, size := range []int{-1, 0, 1, 16, 1024, 1025} {
			if l := all(t, spans.Pieces(s, size)); len(l) != 0 {
				t.Errorf("Pieces(%.40v, %d): %v", s, size, l)
			}
		}
	}
	for _, size := range append([]int{0}, extremes...) {
		for _, s := range [][]api.SpSpan{example(), whole(), alternate(0)} {
			if l := all(t, spans.Pieces(s, size)); len(l) != 0 {
				t.Errorf("Pieces(%.40v, %d): %v", s, size, l)
			}
		}
	}
}

// noSets returns lists that are not sets, with each of the errors of Check.
func noSets() [][]api.SpSpan {
	return [][]api.SpSpan{
		make([]api.SpSpan, 513),
		slices.Repeat(whole(), 513),
		append(alternate(0), sp(1023, 1)),
		list(sp(4, 0)),
		list(sp(1023, 2)),
		append(example(), sp(-1, 1)),
		list(sp(4, 4), sp(8, 1)),
		list(sp(4, 4), sp(0, 1)),
		append(alternate(0)[:511], sp(1021, 3)),
		list(sp(0, 1024), sp(0, 1024)),
	}
}

// checkWalk ends a loop over a sequence at each place, and goes through it again.
func checkWalk[T comparable](t *testing.T, q iter.Seq[T]) {
	t.Helper()
	want := all(t, q)
	for n := 1; n <= len(want); n++ {
		var l []T
		q(func(x T) bool {
			if len(l) == n {
				t.Fatalf("more after the loop has ended: %v", x)
			}
			l = append(l, x)
			return len(l) < n
		})
		if !slices.Equal(l, want[:n]) {
			t.Fatalf("the first %d: %v", n, l)
		}
	}
	if l := all(t, q); !slices.Equal(l, want) {
		t.Fatalf("again: %v, want %v", l, want)
	}
}

// P3.5: a loop may end early, and the sequence be gone through again and again
func TestWalksAgain(t *testing.T) {
	for _, s := range [][]api.SpSpan{nil, example(), list(sp(0, 1), sp(5, 30), sp(1020, 4)), alternate(0)} {
		checkWalk(t, spans.Pages(s))
		for _, size := range []int{1, 3, 16, 1024} {
			checkWalk(t, spans.Pieces(s, size))
		}
	}
}

// P3.5: loops over one sequence inside of each other
func TestWalksNested(t *testing.T) {
	pages, pieces := spans.Pages(list(sp(1, 2), sp(5, 1))), spans.Pieces(list(sp(1, 2), sp(5, 1)), 2)
	var l []int
	for p := range pages {
		for q := range pages {
			l = append(l, 10*p+q)
		}
	}
	if !slices.Equal(l, []int{11, 12, 15, 21, 22, 25, 51, 52, 55}) {
		t.Errorf("pairs of pages: %v", l)
	}
	n := 0
	for range pieces {
		for range pieces {
			n++
		}
	}
	if n != 9 {
		t.Errorf("%d pairs of pieces", n)
	}
}

// P3.5, P3.8, R3: a sequence does not keep its argument
func TestWalksKeepNothing(t *testing.T) {
	s := example()
	pages, pieces := spans.Pages(s), spans.Pieces(s, 16)
	wantPages, wantPieces := slices.Collect(pages), slices.Collect(pieces)
	s[0], s[1] = sp(0, 0), sp(1024, 1<<32)
	if l := all(t, pages); !slices.Equal(l, wantPages) {
		t.Errorf("Pages, after its argument was changed: %v", l)
	}
	if l := all(t, pieces); !slices.Equal(l, wantPieces) {
		t.Errorf("Pieces, after its argument was changed: %v", l)
	}
	none := list(sp(4, 4), sp(8, 1))
	pages, pieces = spans.Pages(none), spans.Pieces(none, 16)
	none[1] = sp(9, 1)
	if l := all(t, pages); len(l) != 0 {
		t.Errorf("Pages, after its argument became a set: %v", l)
	}
	if l := all(t, pieces); len(l) != 0 {
		t.Errorf("Pieces, after its argument became a set: %v", l)
	}
	s = example()
	i := 0
	for p := range spans.Pages(s) {
		clear(s)
		if p != wantPages[i] {
			t.Fatalf("Pages, while its argument is changed: %d", p)
		}
		i++
	}
}
