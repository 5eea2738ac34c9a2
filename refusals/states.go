package refusals

import (
	"slices"

	"polder/api"
)

// Start returns the state of p before the first call.
func Start(p api.RfPlan) (api.RfState, api.Errno) {
	if _, e := Check(p); e != api.OK {
		return api.RfState{}, e
	}
	return api.RfState{Plan: clone(p)}, api.OK
}

// clone returns a plan with the rules of p that shares no memory with it.
func clone(p api.RfPlan) api.RfPlan {
	return api.RfPlan{Rules: slices.Clone(p.Rules)}
}

// CheckState returns OK if s is a state.
func CheckState(s api.RfState) api.Errno {
	if _, e := Check(s.Plan); e != api.OK {
		return e
	}
	for kind, n := range s.Calls {
		if n < 0 || n > api.MaxRfCalls || s.Hits[kind] != hits(s.Plan, kind, n) {
			return api.ErrForm
		}
	}
	return api.OK
}

// Next returns the state after one more call of a kind, and whether this call is refused.
func Next(s api.RfState, kind int) (api.RfState, bool, api.Errno) {
	if e := CheckState(s); e != api.OK {
		return api.RfState{}, false, e
	}
	if !isKind(kind) {
		return api.RfState{}, false, api.ErrArg
	}
	if s.Calls[kind] == api.MaxRfCalls {
		return api.RfState{}, false, api.ErrLong
	}
	s.Plan = clone(s.Plan)
	s.Calls[kind]++
	refused := refuses(s.Plan, kind, s.Calls[kind])
	if refused {
		s.Hits[kind]++
	}
	return s, refused, api.OK
}

// Rest returns the plan that refuses the calls that are still to come after s, numbered from 1 again.
func Rest(s api.RfState) (api.RfPlan, api.Errno) {
	if e := CheckState(s); e != api.OK {
		return api.RfPlan{}, e
	}
	var left api.RfPlan
	for _, r := range s.Plan.Rules {
		made := s.Calls[r.Kind]
		if rest, ok := later(r, made); ok {
			rest.First -= made
			left.Rules = append(left.Rules, rest)
		}
	}
	return left, api.OK
}
