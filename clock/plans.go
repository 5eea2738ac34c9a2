package clock

import (
	"slices"
	"strings"

	"polder/api"
	"polder/words"
)

// Check returns OK if all alarms of p are valid, or the first one that is not.
func Check(p api.CkPlan) (alarm int, e api.Errno) {
	if len(p.Alarms) > api.MaxCkAlarms {
		return 0, api.ErrLong
	}
	for i, a := range p.Alarms {
		e := checkAlarm(a)
		if e == api.OK && i > 0 {
			e = checkOrder(p.Alarms[i-1].Name, a.Name)
		}
		if e != api.OK {
			return i, e
		}
	}
	return 0, api.OK
}

// checkAlarm returns OK if a is valid as the only alarm of a plan.
func checkAlarm(a api.CkAlarm) api.Errno {
	if !words.Name(a.Name) {
		return api.ErrForm
	}
	if !isTime(a.At) || !isTime(a.Every) {
		return api.ErrRange
	}
	return api.OK
}

// checkOrder returns OK if an alarm with a name may stand behind one with the name before.
func checkOrder(before, name string) api.Errno {
	switch {
	case name == before:
		return api.ErrTwice
	case name < before:
		return api.ErrForm
	}
	return api.OK
}

// Add returns the plan p with the alarm a.
func Add(p api.CkPlan, a api.CkAlarm) (api.CkPlan, api.Errno) {
	if _, e := Check(p); e != api.OK {
		return api.CkPlan{}, e
	}
	if e := checkAlarm(a); e != api.OK {
		return api.CkPlan{}, e
	}
	at, found := find(p, a.Name)
	if found {
		return api.CkPlan{}, api.ErrTwice
	}
	if len(p.Alarms) == api.MaxCkAlarms {
		return api.CkPlan{}, api.ErrFull
	}
	q := clone(p)
	a.Name = strings.Clone(a.Name)
	q.Alarms = slices.Insert(q.Alarms, at, a)
	return q, api.OK
}

// Cancel returns the plan p without the alarm that has a name.
func Cancel(p api.CkPlan, name string) (api.CkPlan, api.Errno) {
	if _, e := Check(p); e != api.OK {
		return api.CkPlan{}, e
	}
	at, found := find(p, name)
	if !found {
		return api.CkPlan{}, api.ErrNone
	}
	q := clone(p)
	q.Alarms = slices.Delete(q.Alarms, at, at+1)
	return q, api.OK
}

// find returns where the alarm with a name is in p or would be, and whether it is there.
func find(p api.CkPlan, name string) (at int, found bool) {
	return slices.BinarySearchFunc(p.Alarms, name, func(a api.CkAlarm, name string) int {
		return strings.Compare(a.Name, name)
	})
}

// clone returns a plan with the alarms of p that shares no memory with it, not even that of names.
func clone(p api.CkPlan) api.CkPlan {
	q := api.CkPlan{Alarms: slices.Clone(p.Alarms)}
	for i, a := range q.Alarms {
		q.Alarms[i].Name = strings.Clone(a.Name)
	}
	return q
}
