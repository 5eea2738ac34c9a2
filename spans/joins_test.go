package spans_test

import (
	"math/rand"
	"slices"
	"testing"

	"polder/api"
	"polder/spans"
)

type joining func(a, b []api.SpSpan) ([]api.SpSpan, api.Errno)

// joins are the functions that join two sets, each with what it does to a page.
var joins = []struct {
	name string
	f    joining
	page func(a, b bool) bool
}{
	{"Union", spans.Union, func(a, b bool) bool { return a || b }},
	{"Meet", spans.Meet, func(a, b bool) bool { return a && b }},
	{"Minus", spans.Minus, func(a, b bool) bool { return a && !b }},
}

// The document's examples of P3.2
func TestJoinExamples(t *testing.T) {
	for _, x := range []struct {
		name string
		f    joining
		b    []api.SpSpan
		want []api.SpSpan
	}{
		{"Union", spans.Union, list(sp(8, 8)), list(sp(4, 32))},
		{"Meet", spans.Meet, list(sp(6, 12)), list(sp(6, 2), sp(16, 2))},
		{"Minus", spans.Minus, list(sp(6, 12)), list(sp(4, 2), sp(18, 18))},
	} {
		if s, e := x.f(example(), x.b); !slices.Equal(s, x.want) || e != api.OK {
			t.Errorf("%s(S, %v): %v, %d", x.name, x.b, s, e)
		}
	}
	if s, e := spans.Not(example(), sp(0, 16)); !slices.Equal(s, list(sp(0, 4), sp(8, 8))) || e != api.OK {
		t.Errorf("Not(S, 0, 16): %v, %d", s, e)
	}
}

// checkJoins compares the joined sets of a and b with the reference; they must be sets.
func checkJoins(t *testing.T, a, b []api.SpSpan) {
	t.Helper()
	inA, inB := tableOf(a), tableOf(b)
	for _, x := range joins {
		want := new(table)
		for p := range want {
			want[p] = x.page(inA[p], inB[p])
		}
		s, e := x.f(a, b)
		if !slices.Equal(s, want.set()) || e != api.OK {
			t.Fatalf("%s(%v, %v): %v, %d", x.name, a, b, s, e)
		}
		if e := spans.Check(s); e != api.OK {
			t.Fatalf("Check(%s(%v, %v)): %d", x.name, a, b, e)
		}
	}
}

// P3.2, P3.6: all pairs of small sets, at both ends of the pages
func TestJoinsOfSmallSets(t *testing.T) {
	for _, first := range []int{0, 1018} {
		all := smallSets(first, 6)
		for _, a := range all {
			for _, b := range all {
				checkJoins(t, a, b)
			}
		}
	}
}

// P3.2, P3.6: sets of every kind, those with the most spans too
func TestJoins(t *testing.T) {
	all := samples()
	r := rand.New(rand.NewSource(4))
	for _, a := range all {
		for _, b := range [][]api.SpSpan{nil, a, whole(), alternate(0), alternate(1), all[r.Intn(len(all))], randomSet(r), randomSet(r)} {
			checkJoins(t, a, b)
			checkJoins(t, b, a)
		}
	}
}

// checkNot compares Not with the reference.
func checkNot(t *testing.T, s []api.SpSpan, in api.SpSpan) {
	t.Helper()
	inS, want := tableOf(s), tableOf(list(in))
	for p := range want {
		want[p] = want[p] && !inS[p]
	}
	if l, e := spans.Not(s, in); !slices.Equal(l, want.set()) || e != api.OK {
		t.Fatalf("Not(%v, %v): %v, %d", s, in, l, e)
	}
}

// P3.2, P3.6
func TestNot(t *testing.T) {
	for _, first := range []int{0, 1018} {
		for _, s := range smallSets(first, 6) {
			for _, in := range smallSpans(first, 6) {
				checkNot(t, s, in)
			}
		}
	}
	r := rand.New(rand.NewSource(5))
	for _, s := range samples() {
		checkNot(t, s, sp(0, 1024))
		for range 20 {
			checkNot(t, s, randomSpan(r))
		}
	}
}

// P3.2: spans that are not valid
func TestNotInNoSpan(t *testing.T) {
	for _, in := range notValid() {
		for _, s := range [][]api.SpSpan{nil, example(), whole()} {
			if l, e := spans.Not(s, in); len(l) != 0 || e != api.ErrRange {
				t.Errorf("Not(%v, %v): %v, %d", s, in, l, e)
			}
		}
	}
}
