package spans_test

import (
	"math"
	"math/rand"
	"slices"
	"testing"

	"polder/api"
	"polder/spans"
)

func sp(page, pages int) api.SpSpan { return api.SpSpan{Page: page, Pages: pages} }

func list(l ...api.SpSpan) []api.SpSpan { return l }

// example returns the set S of the document's examples.
func example() []api.SpSpan { return list(sp(4, 4), sp(16, 20)) }

// whole returns the set of all pages.
func whole() []api.SpSpan { return list(sp(0, 1024)) }

// alternate returns the set of every second page, from the page first on: with first 0 or 1 it has as many spans as a set may have.
func alternate(first int) []api.SpSpan {
	var l []api.SpSpan
	for p := first; p < 1024; p += 2 {
		l = append(l, sp(p, 1))
	}
	return l
}

// table says of each page whether it is in a set: the reference that the package is compared with.
type table [1024]bool

// tableOf returns which pages are in a span of l.
func tableOf(l []api.SpSpan) *table {
	t := new(table)
	for _, x := range l {
		for p := x.Page; p < x.Page+x.Pages; p++ {
			t[p] = true
		}
	}
	return t
}

// set returns the set of the pages of a table, found page by page.
func (t *table) set() []api.SpSpan {
	var l []api.SpSpan
	for p, in := range t {
		switch {
		case !in:
		case p > 0 && t[p-1]:
			l[len(l)-1].Pages++
		default:
			l = append(l, sp(p, 1))
		}
	}
	return l
}

// count returns how many pages of a table are in its set.
func (t *table) count() int {
	n := 0
	for _, in := range t {
		if in {
			n++
		}
	}
	return n
}

// extremes are numbers that are no pages, and whose sums may not fit.
var extremes = []int{math.MinInt, math.MinInt + 1, math.MinInt32, -1024, -1, 1025, 2048, 1 << 32, math.MaxInt - 1024, math.MaxInt - 1, math.MaxInt}

// smallSets returns all sets of n pages from page on.
func smallSets(page, n int) [][]api.SpSpan {
	var all [][]api.SpSpan
	for k := range 1 << n {
		t := new(table)
		for i := range n {
			t[page+i] = k>>i&1 == 1
		}
		all = append(all, t.set())
	}
	return all
}

// smallSpans returns all spans of the n pages from page on.
func smallSpans(page, n int) []api.SpSpan {
	var all []api.SpSpan
	for from := range n {
		for to := from + 1; to <= n; to++ {
			all = append(all, sp(page+from, to-from))
		}
	}
	return all
}

// randomSet returns a set of runs of random lengths, so that both short and long spans occur.
func randomSet(r *rand.Rand) []api.SpSpan {
	t := new(table)
	longest := []int{1, 2, 10, 100, 400}[r.Intn(5)]
	in := r.Intn(2) == 0
	for p := 0; p < 1024; in = !in {
		for range 1 + r.Intn(longest) {
			if p < 1024 {
				t[p] = in
				p++
			}
		}
	}
	return t.set()
}

// randomSpan returns a valid span.
func randomSpan(r *rand.Rand) api.SpSpan {
	page := r.Intn(1024)
	return sp(page, 1+r.Intn(1024-page))
}

// samples returns sets of every kind: all small ones at both ends of the pages, those with the fewest and the most spans, and random ones.
func samples() [][]api.SpSpan {
	all := append(smallSets(0, 5), smallSets(1019, 5)...)
	all = append(all, nil, example(), whole(), alternate(0), alternate(1), list(sp(0, 1), sp(1023, 1)), list(sp(1, 1022)))
	r := rand.New(rand.NewSource(1))
	for range 100 {
		all = append(all, randomSet(r))
	}
	return all
}

// P3.1: sets, and lists that are none
func TestCheck(t *testing.T) {
	touching := alternate(0)
	touching[511] = sp(1021, 1)
	for _, x := range []struct {
		s []api.SpSpan
		e api.Errno
	}{
		{nil, api.OK},
		{list(), api.OK},
		{example(), api.OK},
		{whole(), api.OK},
		{list(sp(0, 1)), api.OK},
		{list(sp(1023, 1)), api.OK},
		{list(sp(0, 511), sp(512, 512)), api.OK},
		{alternate(0), api.OK},
		{alternate(1), api.OK},

		{list(sp(4, 4), sp(8, 1)), api.ErrForm},
		{list(sp(4, 4), sp(7, 1)), api.ErrForm},
		{list(sp(4, 4), sp(5, 1)), api.ErrForm},
		{list(sp(4, 4), sp(4, 4)), api.ErrForm},
		{list(sp(4, 4), sp(0, 1)), api.ErrForm},
		{list(sp(4, 4), sp(0, 1024)), api.ErrForm},
		{list(sp(0, 1024), sp(1023, 1)), api.ErrForm},
		{list(sp(0, 1), sp(2, 1), sp(4, 1), sp(5, 1)), api.ErrForm},
		{list(sp(0, 1), sp(2, 1), sp(4, 1), sp(0, 1)), api.ErrForm},
		{touching, api.ErrForm},
		{slices.Repeat(whole(), 512), api.ErrForm},

		{list(sp(1024, 1)), api.ErrRange},
		{list(sp(4, 0)), api.ErrRange},
		{list(sp(0, 0)), api.ErrRange},
		{list(sp(-1, 2)), api.ErrRange},
		{list(sp(5, 1020)), api.ErrRange},
		{append(example(), sp(40, 0)), api.ErrRange},
		{append(list(sp(40, -1)), example()...), api.ErrRange},
		{list(sp(4, 4), sp(8, 1), sp(1023, 2)), api.ErrRange},
		{list(sp(8, 1), sp(4, 4), sp(0, -1)), api.ErrRange},
		{make([]api.SpSpan, 512), api.ErrRange},

		{make([]api.SpSpan, 513), api.ErrLong},
		{slices.Repeat(whole(), 513), api.ErrLong},
		{append(alternate(0), sp(1023, 1)), api.ErrLong},
		{make([]api.SpSpan, 1<<20), api.ErrLong},
	} {
		if e := spans.Check(x.s); e != x.e {
			t.Errorf("Check(%.40v): %d, want %d", x.s, e, x.e)
		}
	}
}

// P3.1: which spans are valid
func TestCheckOneSpan(t *testing.T) {
	numbers := slices.Clone(extremes)
	for n := -3; n <= 1027; n++ {
		numbers = append(numbers, n)
	}
	for _, page := range numbers {
		for _, pages := range numbers {
			want := api.ErrRange
			if 0 <= page && page <= 1023 && 1 <= pages && pages <= 1024 && page+pages <= 1024 {
				want = api.OK
			}
			if e := spans.Check(list(sp(page, pages))); e != want {
				t.Fatalf("Check(%d, %d): %d, want %d", page, pages, e, want)
			}
		}
	}
}

// P3.1: what may follow a span
func TestCheckSomeSpans(t *testing.T) {
	for _, first := range []int{0, 500, 1018} {
		all := smallSpans(first, 6)
		for _, x := range all {
			for _, y := range all {
				for _, z := range all {
					want := api.ErrForm
					if y.Page >= x.Page+x.Pages+1 && z.Page >= y.Page+y.Pages+1 {
						want = api.OK
					}
					if e := spans.Check(list(x, y, z)); e != want {
						t.Fatalf("Check(%v, %v, %v): %d, want %d", x, y, z, e, want)
					}
				}
			}
		}
	}
}

// checkOf compares a set with the reference.
func checkOf(t *testing.T, l []api.SpSpan) {
	t.Helper()
	if s, e := spans.Of(l); !slices.Equal(s, tableOf(l).set()) || e != api.OK {
		t.Fatalf("Of(%v): %v, %d", l, s, e)
	}
}

// P3.1: spans in any order that overlap, touch, or are apart
func TestOf(t *testing.T) {
	if s, e := spans.Of(list(sp(6, 4), sp(2, 3), sp(5, 1))); !slices.Equal(s, list(sp(2, 8))) || e != api.OK {
		t.Errorf("Of: %v, %d", s, e)
	}
	for _, first := range []int{0, 1019} {
		all := smallSpans(first, 5)
		for _, x := range all {
			checkOf(t, list(x))
			for _, y := range all {
				for _, z := range all {
					checkOf(t, list(x, y, z))
				}
			}
		}
	}
	r := rand.New(rand.NewSource(2))
	for range 500 {
		var l []api.SpSpan
		for range r.Intn(300) {
			page := r.Intn(1024)
			l = append(l, sp(page, 1+r.Intn(min(1024-page, 1+r.Intn(40)))))
		}
		checkOf(t, l)
	}
	for _, s := range samples() {
		checkOf(t, s)
		slices.Reverse(s)
		checkOf(t, s)
	}
}

// P3.1: as many spans as Of accepts, and more
func TestOfLimits(t *testing.T) {
	most := append(slices.Repeat(alternate(1), 3), alternate(1)[:464]...)
	checkOf(t, most)
	checkOf(t, slices.Repeat(whole(), 2000))
	bad := slices.Clone(most)
	bad[1999] = sp(1024, 1)
	for _, x := range []struct {
		l []api.SpSpan
		e api.Errno
	}{
		{append(slices.Clone(most), sp(0, 1)), api.ErrLong},
		{append(slices.Clone(bad), sp(0, 1)), api.ErrLong},
		{make([]api.SpSpan, 2001), api.ErrLong},
		{make([]api.SpSpan, 1<<20), api.ErrLong},
		{make([]api.SpSpan, 2000), api.ErrRange},
		{bad, api.ErrRange},
		{list(sp(0, 0)), api.ErrRange},
		{list(sp(4, 4), sp(-1, 1), sp(4, 4)), api.ErrRange},
		{list(sp(1, math.MaxInt)), api.ErrRange},
		{list(sp(math.MaxInt, 1)), api.ErrRange},
		{list(sp(math.MinInt, math.MaxInt)), api.ErrRange},
	} {
		if s, e := spans.Of(x.l); len(s) != 0 || e != x.e {
			t.Errorf("Of(%.40v): %v, %d, want %d", x.l, s, e, x.e)
		}
	}
}

// The document's examples of P3.3
func TestAskExamples(t *testing.T) {
	if is, e := spans.Has(example(), sp(4, 4)); !is || e != api.OK {
		t.Errorf("Has(S, 4, 4): %v, %d", is, e)
	}
	if is, e := spans.Has(example(), sp(7, 2)); is || e != api.OK {
		t.Errorf("Has(S, 7, 2): %v, %d", is, e)
	}
	if is, e := spans.Meets(example(), sp(7, 2)); !is || e != api.OK {
		t.Errorf("Meets(S, 7, 2): %v, %d", is, e)
	}
	if n, e := spans.Count(example()); n != 24 || e != api.OK {
		t.Errorf("Count(S): %d, %d", n, e)
	}
}

// checkAsks compares Has and Meets with the pages of x in a table.
func checkAsks(t *testing.T, s []api.SpSpan, in *table, x api.SpSpan) {
	t.Helper()
	all, some := true, false
	for _, is := range in[x.Page : x.Page+x.Pages] {
		all, some = all && is, some || is
	}
	if is, e := spans.Has(s, x); is != all || e != api.OK {
		t.Fatalf("Has(%v, %v): %v, %d", s, x, is, e)
	}
	if is, e := spans.Meets(s, x); is != some || e != api.OK {
		t.Fatalf("Meets(%v, %v): %v, %d", s, x, is, e)
	}
}

// P3.3
func TestAsks(t *testing.T) {
	r := rand.New(rand.NewSource(3))
	for _, s := range samples() {
		in := tableOf(s)
		if n, e := spans.Count(s); n != in.count() || e != api.OK {
			t.Fatalf("Count(%v): %d, %d", s, n, e)
		}
		near := append(smallSpans(0, 6), smallSpans(1018, 6)...)
		for _, x := range s {
			near = append(near, x)
			if x.Pages > 1 {
				near = append(near, sp(x.Page+1, x.Pages-1), sp(x.Page, x.Pages-1))
			}
			if x.Page > 0 {
				near = append(near, sp(x.Page-1, 1), sp(x.Page-1, 2), sp(x.Page-1, x.Pages+1))
			}
			if x.Page+x.Pages < 1024 {
				near = append(near, sp(x.Page+x.Pages, 1), sp(x.Page+x.Pages-1, 2), sp(x.Page, x.Pages+1))
			}
		}
		for range 100 {
			near = append(near, randomSpan(r))
		}
		for _, x := range near {
			checkAsks(t, s, in, x)
		}
	}
}

// P3.3: spans that are not valid
func TestAsksOfNoSpan(t *testing.T) {
	for _, x := range notValid() {
		for _, s := range [][]api.SpSpan{nil, example(), whole()} {
			if is, e := spans.Has(s, x); is || e != api.ErrRange {
				t.Errorf("Has(%v, %v): %v, %d", s, x, is, e)
			}
			if is, e := spans.Meets(s, x); is || e != api.ErrRange {
				t.Errorf("Meets(%v, %v): %v, %d", s, x, is, e)
			}
		}
	}
}

// notValid returns spans that are not valid.
func notValid() []api.SpSpan {
	all := list(sp(0, 0), sp(5, 0), sp(5, -1), sp(-1, 1), sp(-1, 2), sp(1023, 2), sp(1024, 1), sp(1024, 0), sp(0, 1025), sp(5, 1020))
	for _, n := range extremes {
		all = append(all, sp(n, 1), sp(0, n), sp(n, n), sp(5, n), sp(n, -n))
	}
	return all
}
