package clock_test

import (
	"fmt"
	"math/rand"
	"reflect"
	"slices"
	"strings"
	"testing"
	"unsafe"

	"polder/api"
	"polder/clock"
)

// outcome is the results of a call, but for the error.
type outcome struct {
	values []any
	e      api.Errno
}

// callAll calls all functions with what may be made of these arguments.
func callAll(now int64, stamps []int64, p api.CkPlan, a api.CkAlarm, n int64, s string) map[string]outcome {
	c := at(now)
	all := map[string]outcome{}
	put := func(name string, e api.Errno, values ...any) { all[name] = outcome{values, e} }
	set, e := clock.Set(c, n)
	put("Set", e, set)
	age, e := clock.Age(c, n)
	put("Age", e, age)
	old, e := clock.Old(c, stamps, n)
	put("Old", e, old)
	_, e = clock.Check(p)
	put("Check", e)
	added, e := clock.Add(p, a)
	put("Add", e, added)
	left, e := clock.Cancel(p, a.Name)
	put("Cancel", e, left)
	next, e := clock.Next(p)
	put("Next", e, next)
	rings, rest, e := clock.Run(p, n)
	put("Run", e, rings, rest)
	count, e := clock.Count(p, n)
	put("Count", e, count)
	text, e := clock.Span(n)
	put("Span", e, text)
	duration, e := clock.ParseSpan(s)
	put("ParseSpan", e, duration)
	return all
}

// empty reports whether a value is zero; lists may be empty.
func empty(value any) bool {
	switch v := value.(type) {
	case []int:
		return len(v) == 0
	case []api.CkRing:
		return len(v) == 0
	case api.CkPlan:
		return len(v.Alarms) == 0
	}
	return reflect.ValueOf(value).IsZero()
}

// anyNumber returns a number that may be a time or not.
func anyNumber(r *rand.Rand) int64 {
	if r.Intn(2) == 0 {
		return r.Int63n(30)
	}
	return edges[r.Intn(len(edges))]
}

// anyText returns a string that may be a name, the text of a duration, or neither.
func anyText(r *rand.Rand) string {
	text := make([]byte, r.Intn(5))
	for i := range text {
		text[i] = "abdhms019_-\xff\x00"[r.Intn(13)]
	}
	return string(text)
}

// P9.8, R1, R2: all arguments are accepted, and nothing is returned with an error
func TestAllArguments(t *testing.T) {
	r := rand.New(rand.NewSource(20))
	fine := map[string]int{}
	for range 30000 {
		p := randomPlan(r, r.Int63n(5))
		for i := range p.Alarms {
			if r.Intn(12) == 0 {
				p.Alarms[i] = alarm(anyText(r), anyNumber(r), anyNumber(r))
			}
		}
		stamps := make([]int64, r.Intn(4))
		for i := range stamps {
			stamps[i] = anyNumber(r)
		}
		a := alarm(anyText(r), anyNumber(r), anyNumber(r))
		for name, x := range callAll(anyNumber(r), stamps, p, a, anyNumber(r), anyText(r)) {
			if x.e == api.OK {
				fine[name]++
			} else if slices.ContainsFunc(x.values, func(v any) bool { return !empty(v) }) {
				t.Fatalf("%s: %v", name, x)
			}
		}
	}
	for _, name := range []string{"Set", "Age", "Old", "Check", "Add", "Cancel", "Next", "Run", "Count", "Span", "ParseSpan"} {
		if fine[name] < 200 || fine[name] == 30000 {
			t.Errorf("%s returned no error %d times of 30000", name, fine[name])
		}
	}
}

// P9.8, R1: arguments that are long
func TestLongArguments(t *testing.T) {
	for _, s := range []string{strings.Repeat("9", 1<<21), strings.Repeat("\xff", 1<<21), strings.Repeat("d", 1<<21), strings.Repeat("1d", 1<<20), strings.Repeat("0", 1<<21) + "s", strings.Repeat("-", 1<<21)} {
		check(t, of(clock.ParseSpan(s)), of(0, api.ErrForm), "ParseSpan of a long string")
		check(t, of(clock.Add(example(), alarm(s, 0, 0))), of(api.CkPlan{}, api.ErrForm), "Add of a long name")
		check(t, of(clock.Cancel(example(), s)), of(api.CkPlan{}, api.ErrNone), "Cancel of a long name")
	}
	check(t, of(clock.ParseSpan(strings.Repeat("9", 1<<21)+"d")), of(0, api.ErrRange), "ParseSpan of a long number")
	check(t, of(clock.Check(api.CkPlan{Alarms: make([]api.CkAlarm, 1<<20)})), of(0, api.ErrLong), "Check of many alarms")
	check(t, of(clock.Old(at(0), make([]int64, 1<<20), 0)), of([]int{}, api.ErrLong), "Old of many stamps")
}

// P9.8, R3: arguments are not modified, nor what is behind them
func TestArgumentsStay(t *testing.T) {
	r := rand.New(rand.NewSource(21))
	for range 500 {
		p := randomPlan(r, 0)
		n := len(p.Alarms)
		behind := append(slices.Clone(p.Alarms), alarm("behind", 77, 78), alarm("", -1, -1))
		kept := slices.Clone(behind)
		stamps := []int64{5, 0, 3, 9, -7}
		for _, a := range []api.CkAlarm{alarm("A", 1, 1), alarm("Ab", 1, 1), alarm("zzzzzzzzzzzzzzzz", 1, 1)} {
			callAll(20, stamps[:4], api.CkPlan{Alarms: behind[:n]}, a, r.Int63n(20), "1d")
		}
		if !slices.Equal(behind, kept) {
			t.Fatalf("a plan was changed: %v, want %v", behind, kept)
		}
		check(t, stamps, []int64{5, 0, 3, 9, -7}, "stamps")
	}
}

// spoil changes all lists among values, and what is behind them.
func spoil(values []any) {
	for _, value := range values {
		switch v := value.(type) {
		case []int:
			clear(v[:cap(v)])
		case []api.CkRing:
			clear(v[:cap(v)])
		case api.CkPlan:
			clear(v.Alarms[:cap(v.Alarms)])
		}
	}
}

// freshCalls calls all functions with arguments for which there are no errors.
func freshCalls(p api.CkPlan, stamps []int64) map[string]outcome {
	all := callAll(20, stamps, p, alarm("ab", 7, 7), 15, "1d1h")
	canceled, e := clock.Cancel(p, "b")
	all["Cancel"] = outcome{[]any{canceled}, e}
	return all
}

// P9.8, R3, R6: results share no memory with arguments or with each other, and are the same again
func TestResultsAreFresh(t *testing.T) {
	p, stamps := plan(alarm("a", 5, 10), alarm("b", 15, 0), alarm("c", 16, 3)), []int64{1, 2, 3}
	first := fmt.Sprint(freshCalls(p, stamps))
	for name, x := range freshCalls(p, stamps) {
		if x.e != api.OK {
			t.Errorf("%s: %d", name, x.e)
		}
		others := freshCalls(p, stamps)
		spoil(x.values)
		if fmt.Sprint(others) != first {
			t.Fatalf("%s: the result shares memory with others", name)
		}
		check(t, p, plan(alarm("a", 5, 10), alarm("b", 15, 0), alarm("c", 16, 3)), name)
		check(t, stamps, []int64{1, 2, 3}, name)
	}
	if again := fmt.Sprint(freshCalls(p, stamps)); again != first {
		t.Errorf("the results were %s, and are %s", first, again)
	}
}

// start returns where the bytes of a string are.
func start(s string) *byte {
	return unsafe.StringData(s)
}

// namesIn returns the names in results.
func namesIn(values []any) []string {
	var all []string
	for _, value := range values {
		switch v := value.(type) {
		case []api.CkRing:
			for _, ring := range v {
				all = append(all, ring.Name)
			}
		case api.CkPlan:
			for _, a := range v.Alarms {
				all = append(all, a.Name)
			}
		case api.CkRing:
			all = append(all, v.Name)
		}
	}
	return all
}

// R3: nor do names share memory
func TestNamesAreFresh(t *testing.T) {
	p := plan(alarm("a1", 5, 10), alarm("b1", 15, 0), alarm("c1", 16, 3))
	a := alarm("ab", 7, 7)
	seen := map[*byte]string{start(a.Name): "an argument"}
	for _, x := range p.Alarms {
		seen[start(x.Name)] = "an argument"
	}
	named := 0
	for name, x := range callAll(20, nil, p, a, 15, "1d") {
		for _, s := range namesIn(x.values) {
			if other, known := seen[start(s)]; known {
				t.Errorf("%s: the name %s shares memory with %s", name, s, other)
			}
			seen[start(s)] = name
			named++
		}
	}
	left, _ := clock.Cancel(p, "b1")
	for i, s := range namesIn([]any{left}) {
		if _, known := seen[start(s)]; known {
			t.Errorf("Cancel: the name %d shares memory", i)
		}
		named++
	}
	check(t, named, 4+1+3+2+2, "how many names there are")
}

// P9.8, R4: a nil list and an empty one mean the same
func TestNilLists(t *testing.T) {
	for _, n := range edges {
		for _, name := range []string{"a", "", "1"} {
			a := alarm(name, 0, n)
			none := callAll(n, nil, api.CkPlan{}, a, n, "")
			check(t, callAll(n, []int64{}, api.CkPlan{Alarms: []api.CkAlarm{}}, a, n, ""), none, "empty lists with ", n)
		}
	}
}
