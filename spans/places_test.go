package spans_test

import (
	"math"
	"math/rand"
	"slices"
	"testing"

	"polder/api"
	"polder/spans"
)

// aligns are all alignments that are accepted.
var aligns = []int{1, 2, 4, 8, 16, 32, 64, 128, 256, 512, 1024}

// The document's examples of P3.4
func TestPlaceExamples(t *testing.T) {
	for _, x := range []struct{ pages, align, want int }{{2, 4, 4}, {8, 8, 16}, {4, 32, 32}} {
		if p, e := spans.First(example(), x.pages, x.align); p != x.want || e != api.OK {
			t.Errorf("First(S, %d, %d): %d, %d", x.pages, x.align, p, e)
		}
	}
	if p, e := spans.Best(example(), 4, 1); p != 4 || e != api.OK {
		t.Errorf("Best(S, 4, 1): %d, %d", p, e)
	}
	if p, e := spans.First(example(), 21, 1); p != 0 || e != api.ErrNone {
		t.Errorf("First(S, 21, 1): %d, %d", p, e)
	}
}

// allPlaces returns all places in a table, found page by page.
func allPlaces(in *table, pages, align int) []int {
	var all []int
	for p := 0; p+pages <= 1024; p += align {
		if !slices.Contains(in[p:p+pages], false) {
			all = append(all, p)
		}
	}
	return all
}

// around returns how many pages the span of a table has that has the page p.
func around(in *table, p int) int {
	from, to := p, p
	for from > 0 && in[from-1] {
		from--
	}
	for to < 1024 && in[to] {
		to++
	}
	return to - from
}

// checkPlaces compares First and Best with all places.
func checkPlaces(t *testing.T, s []api.SpSpan, in *table, pages, align int) {
	t.Helper()
	first, best, want := 0, 0, api.ErrNone
	if all := allPlaces(in, pages, align); len(all) > 0 {
		first, best, want = all[0], all[0], api.OK
		for _, p := range all {
			if around(in, p) < around(in, best) {
				best = p
			}
		}
	}
	if p, e := spans.First(s, pages, align); p != first || e != want {
		t.Fatalf("First(%v, %d, %d): %d, %d, want %d, %d", s, pages, align, p, e, first, want)
	}
	if p, e := spans.Best(s, pages, align); p != best || e != want {
		t.Fatalf("Best(%v, %d, %d): %d, %d, want %d, %d", s, pages, align, p, e, best, want)
	}
}

// P3.4, P3.7: all small sets
func TestPlacesInSmallSets(t *testing.T) {
	for _, first := range []int{0, 1014} {
		for _, s := range smallSets(first, 10) {
			in := tableOf(s)
			for pages := 1; pages <= 4; pages++ {
				for _, align := range aligns[:4] {
					checkPlaces(t, s, in, pages, align)
				}
			}
		}
	}
}

// P3.4, P3.7: sets of every kind, and all alignments
func TestPlaces(t *testing.T) {
	r := rand.New(rand.NewSource(6))
	for _, s := range append(samples(), list(sp(0, 1024)), list(sp(0, 512), sp(513, 511)), list(sp(1, 511), sp(513, 511)), list(sp(512, 512))) {
		in := tableOf(s)
		for _, align := range aligns {
			for _, pages := range []int{1, 2, 1 + r.Intn(20), 1 + r.Intn(1024), 511, 512, 1024} {
				checkPlaces(t, s, in, pages, align)
			}
		}
	}
}

// P3.4: the first one of several spans with as few pages, and the place where an alignment leaves pages out
func TestBest(t *testing.T) {
	for _, x := range []struct {
		s                  []api.SpSpan
		pages, align, want int
	}{
		{list(sp(0, 9), sp(20, 3), sp(40, 3)), 2, 1, 20},
		{list(sp(0, 9), sp(20, 4), sp(40, 3), sp(50, 3)), 2, 1, 40},
		{list(sp(0, 9), sp(21, 3), sp(41, 5)), 2, 4, 44},
		{list(sp(0, 9), sp(21, 4)), 2, 4, 0},
		{list(sp(1, 30), sp(65, 15), sp(81, 16)), 8, 8, 72},
	} {
		if p, e := spans.Best(x.s, x.pages, x.align); p != x.want || e != api.OK {
			t.Errorf("Best(%v, %d, %d): %d, %d, want %d", x.s, x.pages, x.align, p, e, x.want)
		}
	}
}

// P3.4: which numbers of pages and alignments are accepted
func TestPlaceArguments(t *testing.T) {
	numbers := append([]int{1 << 62, -2, -4, -1 << 62, 1 << 31, 4096}, extremes...)
	for n := range 1030 {
		numbers = append(numbers, n)
	}
	for _, n := range numbers {
		wantPages, wantAlign := api.ErrArg, api.ErrArg
		if 1 <= n && n <= 1024 {
			wantPages = api.OK
		}
		if slices.Contains(aligns, n) {
			wantAlign = api.OK
		}
		for name, f := range map[string]func(s []api.SpSpan, pages, align int) (int, api.Errno){"First": spans.First, "Best": spans.Best} {
			if p, e := f(whole(), n, 1); p != 0 || e != wantPages {
				t.Errorf("%s(all pages, %d, 1): %d, %d, want %d", name, n, p, e, wantPages)
			}
			if p, e := f(whole(), 1, n); p != 0 || e != wantAlign {
				t.Errorf("%s(all pages, 1, %d): %d, %d, want %d", name, n, p, e, wantAlign)
			}
			if p, e := f(whole(), n, n); p != 0 || e != max(wantPages, wantAlign) {
				t.Errorf("%s(all pages, %d, %d): %d, %d", name, n, n, p, e)
			}
		}
	}
}

// P3.4: ErrArg before ErrNone
func TestPlaceErrorsInTurn(t *testing.T) {
	for _, x := range []struct {
		pages, align int
		e            api.Errno
	}{
		{1, 1, api.ErrNone},
		{1024, 1024, api.ErrNone},
		{0, 1, api.ErrArg},
		{1025, 1, api.ErrArg},
		{math.MaxInt, 1024, api.ErrArg},
		{1, 0, api.ErrArg},
		{1, 3, api.ErrArg},
		{1, 1023, api.ErrArg},
		{1, 2048, api.ErrArg},
		{1, math.MinInt, api.ErrArg},
		{0, 0, api.ErrArg},
	} {
		if p, e := spans.First(nil, x.pages, x.align); p != 0 || e != x.e {
			t.Errorf("First(no pages, %d, %d): %d, %d, want %d", x.pages, x.align, p, e, x.e)
		}
		if p, e := spans.Best(nil, x.pages, x.align); p != 0 || e != x.e {
			t.Errorf("Best(no pages, %d, %d): %d, %d, want %d", x.pages, x.align, p, e, x.e)
		}
	}
}
