package refusals

import (
	"strings"

	"polder/api"
	"polder/words"
)

// maxNumber is the greatest number in the line of a rule.
const maxNumber = 1000000000

// names are those of the kinds of calls.
var names = [api.RfKinds]string{
	api.RfReserve:  "reserve",
	api.RfRelease:  "release",
	api.RfCommit:   "commit",
	api.RfDecommit: "decommit",
	api.RfProtect:  "protect",
	api.RfJoin:     "join",
	api.RfSplit:    "split",
}

// Print returns the text of p.
func Print(p api.RfPlan) (string, api.Errno) {
	if _, e := Check(p); e != api.OK {
		return "", e
	}
	var text strings.Builder
	for _, r := range p.Rules {
		text.WriteString(printRule(r) + "\n")
	}
	return text.String(), api.OK
}

// printRule returns the line of r.
func printRule(r api.RfRule) string {
	line := names[r.Kind] + " " + words.Digits(int64(r.First))
	if r.Every != 0 {
		line += " every " + words.Digits(int64(r.Every))
		if r.Times != 0 {
			line += " times " + words.Digits(int64(r.Times))
		}
	}
	return line
}

// Parse returns the plan whose text is text, or the number of the first line that is wrong.
func Parse(text string) (p api.RfPlan, line int, e api.Errno) {
	lines, e := words.Lines(text)
	if e != api.OK {
		return api.RfPlan{}, 0, e
	}
	rules, wrong := readRules(lines)
	if wrong > 0 {
		return api.RfPlan{}, wrong, api.ErrForm
	}
	if len(rules) > api.MaxRfRules {
		return api.RfPlan{}, 0, api.ErrLong
	}
	p = api.RfPlan{Rules: rules}
	if rule, e := Check(p); e != api.OK {
		return api.RfPlan{}, rule + 1, e
	}
	return p, 0, api.OK
}

// readRules returns the rules of lines, or the number of the first line that is not the line of a rule.
func readRules(lines []string) (rules []api.RfRule, wrong int) {
reading:
	for i, line := range lines {
		fields := strings.Split(line, " ")
		for kind, name := range names {
			if fields[0] != name {
				continue
			}
			if r, ok := readNumbers(fields[1:]); ok {
				r.Kind = kind
				rules = append(rules, r)
				continue reading
			}
		}
		return nil, i + 1
	}
	return rules, 0
}

// readNumbers returns the rule whose line has these fields after the name of its kind, but for its Kind, and whether there is one.
func readNumbers(fields []string) (api.RfRule, bool) {
	switch {
	case len(fields) == 1:
		first, ok := readNumber(fields[0], 0)
		return api.RfRule{First: first, Times: 1}, ok
	case len(fields) == 3 && fields[1] == "every":
		first, ok := readNumber(fields[0], 0)
		every, too := readNumber(fields[2], 1)
		return api.RfRule{First: first, Every: every}, ok && too
	case len(fields) == 5 && fields[3] == "times":
		r, ok := readNumbers(fields[:3])
		times, too := readNumber(fields[4], 1)
		r.Times = times
		return r, ok && too
	}
	return api.RfRule{}, false
}

// readNumber returns the number from least to maxNumber whose decimal form is s, and whether s is one.
func readNumber(s string, least int64) (int, bool) {
	n, e := words.Int(s, least, maxNumber)
	return int(n), e == api.OK
}
