package refusals

import (
	"slices"

	"polder/api"
)

// Same returns whether a and b refuse the same calls.
func Same(a, b api.RfPlan) (bool, api.Errno) {
	for _, p := range [...]api.RfPlan{a, b} {
		if _, e := Check(p); e != api.OK {
			return false, e
		}
	}
	for kind := range api.RfKinds {
		inA, inB := tally(a, kind, horizon), tally(b, kind, horizon)
		for n := range inA {
			if (inA[n] > 0) != (inB[n] > 0) {
				return false, api.OK
			}
		}
	}
	return true, api.OK
}

// Reduce returns p without the rules that are not needed, the last ones being removed first.
func Reduce(p api.RfPlan) (api.RfPlan, api.Errno) {
	if _, e := Check(p); e != api.OK {
		return api.RfPlan{}, e
	}
	var tallies [api.RfKinds][]uint8
	for kind := range tallies {
		tallies[kind] = tally(p, kind, horizon)
	}
	left := slices.Clone(p.Rules)
	for i, r := range slices.Backward(p.Rules) {
		if needed(r, tallies[r.Kind]) {
			continue
		}
		for n := range calls(r, horizon) {
			tallies[r.Kind][n]--
		}
		left = slices.Delete(left, i, i+1)
	}
	return api.RfPlan{Rules: left}, api.OK
}

// needed reports whether r is the only rule that refuses one of its calls; rules says how many refuse each call.
func needed(r api.RfRule, rules []uint8) bool {
	for n := range calls(r, horizon) {
		if rules[n] == 1 {
			return true
		}
	}
	return false
}
