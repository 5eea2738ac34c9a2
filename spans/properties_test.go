package spans_test

import (
	"math/rand"
	"slices"
	"testing"

	"polder/api"
	"polder/spans"
)

// must returns a result that has to come without an error.
func must[T any](t *testing.T) func(x T, e api.Errno) T {
	return func(x T, e api.Errno) T {
		t.Helper()
		if e != api.OK {
			t.Fatalf("an error: %d", e)
		}
		return x
	}
}

// P3.1: two sets have the same pages exactly if they are equal, and so Of changes no set
func TestOfSet(t *testing.T) {
	for _, s := range samples() {
		if l, e := spans.Of(s); !slices.Equal(l, s) || e != api.OK {
			t.Fatalf("Of(%v): %v, %d", s, l, e)
		}
		var single []api.SpSpan
		for p := range spans.Pages(s) {
			single = append(single, sp(p, 1))
		}
		if l, e := spans.Of(single); !slices.Equal(l, s) || e != api.OK {
			t.Fatalf("Of the pages of %v: %v, %d", s, l, e)
		}
		if l, e := spans.Of(slices.Collect(spans.Pieces(s, 7))); !slices.Equal(l, s) || e != api.OK {
			t.Fatalf("Of the pieces of %v: %v, %d", s, l, e)
		}
	}
}

// P3.6
func TestLaws(t *testing.T) {
	set, all := must[[]api.SpSpan](t), sp(0, 1024)
	r := rand.New(rand.NewSource(7))
	for _, a := range samples() {
		b := randomSet(r)
		notA, notB := set(spans.Not(a, all)), set(spans.Not(b, all))
		if !slices.Equal(set(spans.Minus(a, b)), set(spans.Meet(a, notB))) {
			t.Fatalf("Minus(%v, %v)", a, b)
		}
		if !slices.Equal(set(spans.Not(set(spans.Union(a, b)), all)), set(spans.Meet(notA, notB))) {
			t.Fatalf("Not of Union(%v, %v)", a, b)
		}
		if part := set(spans.Meet(a, b)); !slices.Equal(set(spans.Union(a, part)), a) {
			t.Fatalf("Union(%v, %v)", a, part)
		}
		if more := set(spans.Union(a, b)); !slices.Equal(set(spans.Meet(a, more)), a) {
			t.Fatalf("Meet(%v, %v)", a, more)
		}
		n, m := must[int](t)(spans.Count(a)), must[int](t)(spans.Count(notA))
		if n+m != 1024 {
			t.Fatalf("%v has %d pages, and %d not", a, n, m)
		}
	}
}

// P3.6: a page is in the result exactly if the definition says so, asked by Has
func TestPagesOfJoins(t *testing.T) {
	set, is := must[[]api.SpSpan](t), must[bool](t)
	r := rand.New(rand.NewSource(8))
	for range 5 {
		a, b, in := randomSet(r), randomSet(r), randomSpan(r)
		joined := make([][]api.SpSpan, len(joins))
		for i, x := range joins {
			joined[i] = set(x.f(a, b))
		}
		not := set(spans.Not(a, in))
		for p := range 1024 {
			inA, inB := is(spans.Has(a, sp(p, 1))), is(spans.Has(b, sp(p, 1)))
			for i, x := range joins {
				if is(spans.Has(joined[i], sp(p, 1))) != x.page(inA, inB) {
					t.Fatalf("%s(%v, %v): page %d", x.name, a, b, p)
				}
			}
			want := in.Page <= p && p < in.Page+in.Pages && !inA
			if is(spans.Has(not, sp(p, 1))) != want {
				t.Fatalf("Not(%v, %v): page %d", a, in, p)
			}
		}
	}
}

// P3.7
func TestPlacesAreFirstAndBest(t *testing.T) {
	is := must[bool](t)
	r := rand.New(rand.NewSource(9))
	for _, s := range samples() {
		pages, align := 1+r.Intn(1+r.Intn(40)), aligns[r.Intn(7)]
		first, e := spans.First(s, pages, align)
		if e == api.ErrNone {
			continue
		}
		best := must[int](t)(spans.Best(s, pages, align))
		for _, p := range []int{first, best} {
			if p%align != 0 || !is(spans.Has(s, sp(p, pages))) {
				t.Fatalf("%v: %d is no place for %d pages, aligned to %d", s, p, pages, align)
			}
		}
		for p := 0; p < first; p += align {
			if is(spans.Has(s, sp(p, pages))) {
				t.Fatalf("First(%v, %d, %d): %d, but there is the place %d", s, pages, align, first, p)
			}
		}
		in := tableOf(s)
		for _, x := range s {
			_, e := spans.First(list(x), pages, align)
			if e == api.OK && x.Pages < around(in, best) {
				t.Fatalf("Best(%v, %d, %d): %d, but there is a place in %v", s, pages, align, best, x)
			}
		}
	}
}
