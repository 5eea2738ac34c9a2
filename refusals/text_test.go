package refusals_test

import (
	"math/rand"
	"regexp"
	"strconv"
	"strings"
	"testing"

	"polder/api"
	"polder/refusals"
	"polder/words"
)

// kinds are the names of the kinds of calls.
var kinds = []string{"reserve", "release", "commit", "decommit", "protect", "join", "split"}

// P5.6: what rules look like
func TestPrint(t *testing.T) {
	for kind, name := range kinds {
		for _, x := range []struct {
			rule api.RfRule
			want string
		}{
			{api.RfRule{Kind: kind, First: 1, Times: 1}, " 1\n"},
			{api.RfRule{Kind: kind, First: 10000, Times: 1}, " 10000\n"},
			{api.RfRule{Kind: kind, First: 70, Every: 1}, " 70 every 1\n"},
			{api.RfRule{Kind: kind, First: 70, Every: 12}, " 70 every 12\n"},
			{api.RfRule{Kind: kind, First: 9, Every: 3, Times: 1}, " 9 every 3 times 1\n"},
			{api.RfRule{Kind: kind, First: 9, Every: 3, Times: 1000}, " 9 every 3 times 1000\n"},
		} {
			check(t, of(refusals.Print(plan(x.rule))), of(name+x.want, api.OK), "Print of ", x.rule)
			check(t, of(refusals.Print(both(example(), plan(x.rule, x.rule)))), of("commit 3 every 2\ncommit 4\nreserve 1 every 3 times 2\n"+name+x.want+name+x.want, api.OK), "Print of ", x.rule)
		}
	}
	check(t, of(refusals.Print(api.RfPlan{})), of("", api.OK), "Print of no rules")
}

// parsed is what Parse returns.
type parsed struct {
	p    api.RfPlan
	line int
	e    api.Errno
}

// parse calls Parse.
func parse(text string) parsed {
	p, line, e := refusals.Parse(text)
	return parsed{p, line, e}
}

// ruleLine is the form of the line of a rule, with numbers of any size.
var ruleLine = regexp.MustCompile(`^(reserve|release|commit|decommit|protect|join|split) (0|[1-9][0-9]*)(?: every ([1-9][0-9]*)(?: times ([1-9][0-9]*))?)?$`)

// ruleOf returns the rule of a line, and whether it is one.
func ruleOf(line string) (api.RfRule, bool) {
	found := ruleLine.FindStringSubmatch(line)
	if found == nil || strings.Contains(line, "\n") {
		return api.RfRule{}, false
	}
	r := api.RfRule{}
	for r.Kind < len(kinds) && kinds[r.Kind] != found[1] {
		r.Kind++
	}
	for i, number := range []*int{&r.First, &r.Every, &r.Times} {
		if found[2+i] == "" {
			continue
		}
		n, err := strconv.ParseInt(found[2+i], 10, 64)
		if err != nil || n > 1000000000 {
			return api.RfRule{}, false
		}
		*number = int(n)
	}
	if r.Every == 0 {
		r.Times = 1
	}
	return r, true
}

// read returns what Parse is to return of a text that words.Lines accepts.
func read(text string) parsed {
	var rules []api.RfRule
	for i, line := range strings.Split(strings.TrimSuffix(text, "\n"), "\n") {
		if text == "" {
			break
		}
		r, ok := ruleOf(line)
		if !ok {
			return parsed{api.RfPlan{}, i + 1, api.ErrForm}
		}
		rules = append(rules, r)
	}
	if len(rules) > 50 {
		return parsed{api.RfPlan{}, 0, api.ErrLong}
	}
	for i, r := range rules {
		if e := errorOf(r); e != api.OK {
			return parsed{api.RfPlan{}, i + 1, e}
		}
	}
	return parsed{api.RfPlan{Rules: rules}, 0, api.OK}
}

// checkParse compares Parse of a text that words.Lines accepts with read, and Print of the result with the text (P5.9).
func checkParse(t *testing.T, text string) parsed {
	t.Helper()
	got := parse(text)
	check(t, got, read(text), "Parse of ", strconv.Quote(text))
	if got.e == api.OK {
		check(t, of(refusals.Print(got.p)), of(text, api.OK), "Print of what Parse returns")
	}
	return got
}

// P5.6: lines that are those of rules, and lines that are nearly
func TestParseLines(t *testing.T) {
	for line, want := range map[string]api.Errno{
		"commit 1": api.OK, "commit 10000": api.OK, "commit 10001": api.ErrRange, "commit 0": api.ErrRange, "commit 1000000000": api.ErrRange, "commit 1000000001": api.ErrForm,
		"commit 99999999999999999999": api.ErrForm, "commit -1": api.ErrForm, "commit -0": api.ErrForm, "commit +1": api.ErrForm, "commit 01": api.ErrForm, "commit 00": api.ErrForm, "commit 1.": api.ErrForm, "commit 0x1": api.ErrForm, "commit a": api.ErrForm,
		"commit 1 every 1": api.OK, "commit 1 every 12": api.OK, "commit 1 every 13": api.ErrRange, "commit 1 every 0": api.ErrForm, "commit 1 every -1": api.ErrForm, "commit -1 every 1": api.ErrForm, "commit -1 every 1 times 1": api.ErrForm, "commit 1 every 1 times -1": api.ErrForm, "commit 1 every 01": api.ErrForm, "commit 1 every 1000000000": api.ErrRange, "commit 1 every 1000000001": api.ErrForm,
		"commit 1 every 1 times 1": api.OK, "commit 1 every 1 times 1000": api.OK, "commit 1 every 1 times 1001": api.ErrRange, "commit 1 every 1 times 0": api.ErrForm, "commit 1 every 1 times 1000000000": api.ErrRange, "commit 1 every 1 times 1000000001": api.ErrForm, "commit 1 every 1 times 05": api.ErrForm,
		"commit 0 every 0": api.ErrForm, "commit 0 every 1 times 0": api.ErrForm, "commit 0 every 1 times 1": api.ErrRange, "commit 0 every 0 times 1": api.ErrForm, "commit 01 every 1 times 1": api.ErrForm, "commit 1 every 01 times 1": api.ErrForm,
		"": api.ErrForm, " ": api.ErrForm, "commit": api.ErrForm, "commit ": api.ErrForm, "commit  1": api.ErrForm, " commit 1": api.ErrForm, "commit 1 ": api.ErrForm, "commit 1  ": api.ErrForm, "commit\t1": api.ErrForm, "commit 1\r": api.ErrForm, "commit 1\x00": api.ErrForm,
		"Commit 1": api.ErrForm, "COMMIT 1": api.ErrForm, "commits 1": api.ErrForm, "commi 1": api.ErrForm, "2 1": api.ErrForm, "1": api.ErrForm, "1 1": api.ErrForm, " 1": api.ErrForm, "every 1": api.ErrForm, "read 1": api.ErrForm, "reserve release 1": api.ErrForm, "reserve 1 release 1": api.ErrForm,
		"commit 1 every": api.ErrForm, "commit 1 every ": api.ErrForm, "commit every 1": api.ErrForm, "commit 1 2": api.ErrForm, "commit 1 every 1 1": api.ErrForm, "commit 1 times 1": api.ErrForm, "commit 1 every 1 times": api.ErrForm, "commit 1 every 1 times ": api.ErrForm, "commit 1 times 1 every 1": api.ErrForm,
		"commit 1 every 2 every 2": api.ErrForm, "commit 1 times 2 times 2": api.ErrForm, "commit 1 Every 2": api.ErrForm, "commit 1 every 2 Times 2": api.ErrForm, "commit 1 every 2 times 2 x": api.ErrForm, "commit 1 every 2 times 2 every 2": api.ErrForm, "commit 1 x 2": api.ErrForm, "commit 1 x 2 times 2": api.ErrForm, "commit 1 every 2 x 2": api.ErrForm,
		`commit "1"`: api.ErrForm, `"commit" 1`: api.ErrForm, "commit 1 # first": api.ErrForm, "commit\xff 1": api.ErrForm, "commit １": api.ErrForm,
	} {
		got := checkParse(t, line+"\n")
		if got.e != want || want != api.OK && got.line != 1 {
			t.Errorf("Parse(%q): %d, %d, want %d", line, got.line, got.e, want)
		}
		for i, e := range []api.Errno{checkParse(t, "join 5\njoin 1 every 2\n"+line+"\n").e, checkParse(t, line+"\njoin 1 every 2 times 5\n").e} {
			if e != want {
				t.Errorf("Parse with %q, %d: %d, want %d", line, i, e, want)
			}
		}
	}
}

// P5.6: which error is the first
func TestParseErrors(t *testing.T) {
	for _, x := range []struct {
		text string
		line int
		e    api.Errno
	}{
		{"join 0\n", 1, api.ErrRange},
		{"join 1\njoin 1 every 13\njoin 0\n", 2, api.ErrRange},
		{"join 0\nx\n\n", 2, api.ErrForm},
		{"join 1\n\njoin 1\n", 2, api.ErrForm},
		{"\n", 1, api.ErrForm},
		{strings.Repeat("join 1\n", 50), 0, api.OK},
		{strings.Repeat("join 1\n", 51), 0, api.ErrLong},
		{strings.Repeat("join 0\n", 50), 1, api.ErrRange},
		{strings.Repeat("join 0\n", 51), 0, api.ErrLong},
		{strings.Repeat("join 1\n", 49) + "join 0\n", 50, api.ErrRange},
		{strings.Repeat("join 1\n", 50) + "join\n", 51, api.ErrForm},
		{strings.Repeat("join 0\n", 4999) + "join 1000000001\n", 5000, api.ErrForm},
		{strings.Repeat("join 0\n", 5000), 0, api.ErrLong},
	} {
		got := checkParse(t, x.text)
		if got.line != x.line || got.e != x.e {
			t.Errorf("Parse(%.50q): %d, %d, want %d, %d", x.text, got.line, got.e, x.line, x.e)
		}
	}
	long := strings.Repeat("x", api.MaxScript)
	for i, text := range []string{"join 1", "x", "join 0\njoin", strings.Repeat("\n", 5001), strings.Repeat("join 1\n", 5001), long, long + "\n", "join 0\n" + long + "\n"} {
		_, e := words.Lines(text)
		if e == api.OK {
			t.Fatalf("%d: words.Lines accepts the text", i)
		}
		check(t, parse(text), parsed{e: e}, "a text that words.Lines does not accept: ", i)
	}
	checkParse(t, long[1:]+"\n")
	checkParse(t, "join 1 "+strings.Repeat(" ", api.MaxScript-8)+"\n")
}

// P5.6: texts of random words
func TestParseRandomTexts(t *testing.T) {
	r := rand.New(rand.NewSource(30))
	parts := []string{" ", " ", " ", "every", "times", "0", "1", "7", "12", "13", "1000", "1001", "x", "\n", "\n"}
	right := 0
	for range 20000 {
		var text strings.Builder
		for range r.Intn(4) {
			line := kinds[r.Intn(7)] + " " + strconv.Itoa(r.Intn(12))
			if r.Intn(2) == 0 {
				line += " every " + strconv.Itoa(1+r.Intn(13))
				if r.Intn(2) == 0 {
					line += " times " + strconv.Itoa(1+r.Intn(1100))
				}
			}
			if r.Intn(8) == 0 {
				at := r.Intn(len(line) + 1)
				line = line[:at] + parts[r.Intn(len(parts))] + line[min(len(line), at+r.Intn(4)):]
			}
			text.WriteString(line + "\n")
		}
		if checkParse(t, text.String()).e == api.OK {
			right++
		}
	}
	if right < 5000 || right > 18000 {
		t.Errorf("%d of 20000 texts are right", right)
	}
}

// P5.9: Parse of Print is the plan
func TestParseOfPrint(t *testing.T) {
	r := rand.New(rand.NewSource(31))
	for range 500 {
		p := anyPlan(r, 50)
		text, e := refusals.Print(p)
		check(t, e, api.OK, "Print of ", p)
		check(t, parse(text), parsed{p: p}, "Parse of ", text)
		checkParse(t, text)
	}
}
