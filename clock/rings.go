package clock

import (
	"iter"
	"slices"
	"strings"

	"polder/api"
)

// Next returns the first ring of p.
func Next(p api.CkPlan) (api.CkRing, api.Errno) {
	if _, e := Check(p); e != api.OK {
		return api.CkRing{}, e
	}
	for ring := range rings(p) {
		return ring, api.OK
	}
	return api.CkRing{}, api.ErrNone
}

// Run returns the rings of p up to a time, and the plan for the time after that.
func Run(p api.CkPlan, until int64) ([]api.CkRing, api.CkPlan, api.Errno) {
	n, e := Count(p, until)
	if e != api.OK {
		return nil, api.CkPlan{}, e
	}
	if n > api.MaxCkRings {
		return nil, api.CkPlan{}, api.ErrLong
	}
	var rung []api.CkRing
	for ring := range rings(p) {
		if ring.At > until {
			break
		}
		rung = append(rung, ring)
	}
	return rung, after(p, until), api.OK
}

// Count returns how many rings of p there are up to a time.
func Count(p api.CkPlan, until int64) (int64, api.Errno) {
	if _, e := Check(p); e != api.OK {
		return 0, e
	}
	if !isTime(until) {
		return 0, api.ErrRange
	}
	n := int64(0)
	for _, a := range p.Alarms {
		n += count(a, until)
	}
	return n, api.OK
}

// count returns how often a rings up to the time t.
func count(a api.CkAlarm, t int64) int64 {
	switch {
	case t < a.At:
		return 0
	case a.Every == 0:
		return 1
	}
	return (t-a.At)/a.Every + 1
}

// later returns the alarm that has the rings of a after the time t, and whether there are any.
func later(a api.CkAlarm, t int64) (api.CkAlarm, bool) {
	if a.Every == 0 {
		return a, t < a.At
	}
	a.At += count(a, t) * a.Every
	return a, isTime(a.At)
}

// after returns the plan that has the rings of p after the time t.
func after(p api.CkPlan, t int64) api.CkPlan {
	var left api.CkPlan
	for _, a := range p.Alarms {
		if rest, ok := later(a, t); ok {
			left.Alarms = append(left.Alarms, rest)
		}
	}
	return clone(left)
}

// rings yields all rings of p in order. They may be too many to be held, or gone through to the end.
func rings(p api.CkPlan) iter.Seq[api.CkRing] {
	return func(yield func(api.CkRing) bool) {
		next := merge(p)
		for {
			ring, ok := next()
			if !ok || !yield(ring) {
				return
			}
		}
	}
}

// merge returns a function that returns the rings of p, one at each call, and whether there was one left.
func merge(p api.CkPlan) func() (api.CkRing, bool) {
	left := slices.Clone(p.Alarms)
	return func() (api.CkRing, bool) {
		if len(left) == 0 {
			return api.CkRing{}, false
		}
		first := 0
		for i, a := range left {
			if a.At < left[first].At { // at the same time the lesser name comes first, as it does in the plan
				first = i
			}
		}
		a := left[first]
		if rest, ok := later(a, a.At); ok {
			left[first] = rest
		} else {
			left = slices.Delete(left, first, first+1)
		}
		return api.CkRing{Name: strings.Clone(a.Name), At: a.At}, true
	}
}
