package spans_test

import (
	"math"
	"math/rand"
	"slices"
	"testing"

	"polder/api"
	"polder/spans"
)

// outcome is what a function returned: its error, and whether its other result is zero.
type outcome struct {
	name string
	e    api.Errno
	zero bool
}

func ofSet(name string) func(s []api.SpSpan, e api.Errno) outcome {
	return func(s []api.SpSpan, e api.Errno) outcome { return outcome{name, e, len(s) == 0} }
}

func ofValue[T comparable](name string) func(x T, e api.Errno) outcome {
	var zero T
	return func(x T, e api.Errno) outcome { return outcome{name, e, x == zero} }
}

// callOne calls all functions with one set, with this one, this span and these numbers.
func callOne(s []api.SpSpan, x api.SpSpan, pages, align int) []outcome {
	return []outcome{
		ofSet("Not")(spans.Not(s, x)),
		ofValue[bool]("Has")(spans.Has(s, x)),
		ofValue[bool]("Meets")(spans.Meets(s, x)),
		ofValue[int]("Count")(spans.Count(s)),
		ofValue[int]("First")(spans.First(s, pages, align)),
		ofValue[int]("Best")(spans.Best(s, pages, align)),
	}
}

// callTwo calls all functions with two sets.
func callTwo(a, b []api.SpSpan) []outcome {
	var all []outcome
	for _, x := range joins {
		all = append(all, ofSet(x.name)(x.f(a, b)))
	}
	return all
}

// P3.2, P3.3, P3.4, R2: the error of Check is the first one, whatever else is wrong
func TestErrorOfCheckIsFirst(t *testing.T) {
	for _, s := range noSets() {
		want := spans.Check(s)
		if want == api.OK {
			t.Fatalf("Check(%.40v): no error", s)
		}
		for _, x := range append(notValid(), sp(4, 4)) {
			for _, n := range []int{math.MinInt, -1, 0, 1, 3, 1025} {
				for _, o := range callOne(s, x, n, n) {
					if o.e != want || !o.zero {
						t.Fatalf("%s(%.40v, %v, %d): %d, zero %v, want %d", o.name, s, x, n, o.e, o.zero, want)
					}
				}
			}
		}
	}
}

// P3.2, R2: for a, then for b
func TestErrorsOfTwo(t *testing.T) {
	for _, a := range noSets() {
		for _, b := range noSets() {
			for _, x := range []struct {
				a, b []api.SpSpan
				e    api.Errno
			}{{a, b, spans.Check(a)}, {a, example(), spans.Check(a)}, {example(), b, spans.Check(b)}, {nil, b, spans.Check(b)}} {
				for _, o := range callTwo(x.a, x.b) {
					if o.e != x.e || !o.zero {
						t.Fatalf("%s(%.40v, %.40v): %d, zero %v, want %d", o.name, x.a, x.b, o.e, o.zero, x.e)
					}
				}
			}
		}
	}
}

// randomList returns a list that may be a set, or fail to be one in any way.
func randomList(r *rand.Rand) []api.SpSpan {
	s := randomSet(r)
	for range r.Intn(3) {
		if len(s) > 0 {
			s[r.Intn(len(s))] = append(notValid(), randomSpan(r), randomSpan(r))[r.Intn(len(notValid())+2)]
		}
	}
	return s
}

// P3.8, R1, R2: all arguments are accepted, and nothing is returned with an error
func TestAllArguments(t *testing.T) {
	r := rand.New(rand.NewSource(10))
	numbers := append([]int{0, 1, 2, 3, 16, 512, 1023, 1024}, extremes...)
	for range 5000 {
		a, b := randomList(r), randomList(r)
		x := sp(numbers[r.Intn(len(numbers))], numbers[r.Intn(len(numbers))])
		pages, align := numbers[r.Intn(len(numbers))], numbers[r.Intn(len(numbers))]
		outcomes := append(callOne(a, x, pages, align), callTwo(a, b)...)
		outcomes = append(outcomes, ofSet("Of")(spans.Of(slices.Concat(a, b))))
		for _, o := range outcomes {
			if o.e != api.OK && !o.zero {
				t.Fatalf("%s: a result with the error %d", o.name, o.e)
			}
		}
		n := 0
		for range spans.Pages(a) {
			n++
		}
		for range spans.Pieces(a, pages) {
			n++
		}
		if n > 0 && spans.Check(a) != api.OK {
			t.Fatalf("%d pages and pieces of %v", n, a)
		}
	}
}

// P3.8, R3: arguments are not modified, nor what is behind them
func TestArgumentsStay(t *testing.T) {
	r := rand.New(rand.NewSource(11))
	for range 2000 {
		a, b := randomSet(r), randomSet(r)
		l := slices.Concat(b, a)
		r.Shuffle(len(l), func(i, j int) { l[i], l[j] = l[j], l[i] })
		arguments := [][]api.SpSpan{a, b, l}
		var behind, kept [][]api.SpSpan
		for i, s := range arguments {
			longer := append(slices.Clone(s), sp(77, 78), sp(0, 1))
			arguments[i] = longer[:len(s)]
			behind = append(behind, longer)
			kept = append(kept, slices.Clone(longer))
		}
		spans.Check(arguments[2])
		spans.Of(arguments[2])
		callTwo(arguments[0], arguments[1])
		callOne(arguments[0], randomSpan(r), 1+r.Intn(40), aligns[r.Intn(len(aligns))])
		for range spans.Pages(arguments[0]) {
		}
		for range spans.Pieces(arguments[0], 1+r.Intn(40)) {
		}
		for i := range behind {
			if !slices.Equal(behind[i], kept[i]) {
				t.Fatalf("an argument was changed: %v, %v", kept[i], behind[i])
			}
		}
	}
}

// P3.8, R3: what is done to a result is seen neither in an argument nor in another result
func TestResultsAreFresh(t *testing.T) {
	a, none, all := example(), list(), whole()
	for name, f := range map[string]func() ([]api.SpSpan, api.Errno){
		"Of":                 func() ([]api.SpSpan, api.Errno) { return spans.Of(a) },
		"Union with itself":  func() ([]api.SpSpan, api.Errno) { return spans.Union(a, a) },
		"Union with none":    func() ([]api.SpSpan, api.Errno) { return spans.Union(a, none) },
		"Union of none":      func() ([]api.SpSpan, api.Errno) { return spans.Union(nil, a) },
		"Meet with itself":   func() ([]api.SpSpan, api.Errno) { return spans.Meet(a, a) },
		"Meet with all":      func() ([]api.SpSpan, api.Errno) { return spans.Meet(a, all) },
		"Meet of all":        func() ([]api.SpSpan, api.Errno) { return spans.Meet(all, a) },
		"Minus none":         func() ([]api.SpSpan, api.Errno) { return spans.Minus(a, none) },
		"Not":                func() ([]api.SpSpan, api.Errno) { return spans.Not(list(sp(8, 8)), sp(4, 32)) },
		"pieces":             func() ([]api.SpSpan, api.Errno) { return slices.Collect(spans.Pieces(a, 1024)), api.OK },
		"Of, in other order": func() ([]api.SpSpan, api.Errno) { return spans.Of(list(a[1], a[0])) },
	} {
		for range 2 {
			s, e := f()
			if e != api.OK || !slices.Equal(s, example()) {
				t.Errorf("%s: %v, %d", name, s, e)
			}
			clear(s[:cap(s)])
			if !slices.Equal(a, example()) || !slices.Equal(all, whole()) {
				t.Fatalf("%s: the result shares memory with an argument", name)
			}
		}
	}
}

// P3.8, R4: nil and empty sets mean the same
func TestNilSets(t *testing.T) {
	for _, b := range [][]api.SpSpan{nil, list(), example()} {
		if !slices.Equal(callTwo(nil, b), callTwo(list(), b)) || !slices.Equal(callTwo(b, nil), callTwo(b, list())) {
			t.Errorf("with %v: nil and empty sets differ", b)
		}
	}
	for _, x := range list(sp(0, 1), sp(0, 1024), sp(0, 0)) {
		for _, n := range []int{0, 1, 1024} {
			if !slices.Equal(callOne(nil, x, n, n), callOne(list(), x, n, n)) {
				t.Errorf("with %v and %d: nil and empty sets differ", x, n)
			}
		}
	}
	for _, s := range [][]api.SpSpan{nil, list()} {
		if l, e := spans.Of(s); len(l) != 0 || e != api.OK {
			t.Errorf("Of(no spans): %v, %d", l, e)
		}
	}
}
