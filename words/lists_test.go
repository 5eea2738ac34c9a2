package words_test

import (
	"math/big"
	"math/rand"
	"regexp"
	"slices"
	"strconv"
	"strings"
	"testing"

	"polder/api"
	"polder/words"
)

// upTo returns the numbers from a to b.
func upTo(a, b int) []int {
	var l []int
	for n := a; n <= b; n++ {
		l = append(l, n)
	}
	return l
}

// P1.3, P1.8 for List and ParseList
func TestListAndParseList(t *testing.T) {
	for _, x := range []struct {
		s string
		l []int
	}{
		{"", nil},
		{"", []int{}},
		{"0", []int{0}},
		{"9999", []int{9999}},
		{"1-3,7", []int{1, 2, 3, 7}},
		{"4x4", []int{4, 4, 4, 4}},
		{"1,2", []int{1, 2}},
		{"2x10", []int{10, 10}},
		{"0,0", []int{0, 0}},
		{"1,2,3x3", []int{1, 2, 3, 3, 3}},
		{"7,5,3", []int{7, 5, 3}},
		{"9,10", []int{9, 10}},
		{"9-11", []int{9, 10, 11}},
		{"9,8", []int{9, 8}},
		{"3x9,10", []int{9, 9, 9, 10}},
		{"9,9-11", []int{9, 9, 10, 11}},
		{"9998,9999", []int{9998, 9999}},
		{"9997-9999,0-2", []int{9997, 9998, 9999, 0, 1, 2}},
		{"0-499", upTo(0, 499)},
		{"9500-9999", upTo(9500, 9999)},
		{"500x0", make([]int, 500)},
	} {
		if got, e := words.List(x.l); got != x.s || e != api.OK {
			t.Errorf("List(%v): %s, %d, want %s", x.l, got, e, x.s)
		}
		if got, e := words.ParseList(x.s); !slices.Equal(got, x.l) || e != api.OK {
			t.Errorf("ParseList(%s): %v, %d, want %v", x.s, got, e, x.l)
		}
	}
}

// P1.3
func TestListErrors(t *testing.T) {
	long := make([]int, 501)
	longAndBad := append(make([]int, 500), -1)
	for _, x := range []struct {
		l []int
		e api.Errno
	}{
		{[]int{-1}, api.ErrRange},
		{[]int{10000}, api.ErrRange},
		{[]int{1, 2, 10000, 3}, api.ErrRange},
		{[]int{1, 2, 3, -1}, api.ErrRange},
		{[]int{-1 << 63}, api.ErrRange},
		{[]int{1<<63 - 1}, api.ErrRange},
		{append(make([]int, 499), 10000), api.ErrRange},
		{long, api.ErrLong},
		{longAndBad, api.ErrLong},
	} {
		if s, e := words.List(x.l); s != "" || e != x.e {
			t.Errorf("List of %d numbers: %q, %d, want %d", len(x.l), s, e, x.e)
		}
	}
}

// P1.3: expressions that are not canonical
func TestParseList(t *testing.T) {
	for s, want := range map[string][]int{
		"5-7,2x9": {5, 6, 7, 9, 9},
		"1-2":     {1, 2},
		"9-10":    {9, 10},
		"2x0,0":   {0, 0, 0},
		"1,1,1":   {1, 1, 1},
		"12x1":    slices.Repeat([]int{1}, 12),
		"3,1-2,0": {3, 1, 2, 0},
	} {
		if got, e := words.ParseList(s); !slices.Equal(got, want) || e != api.OK {
			t.Errorf("ParseList(%s): %v, %d, want %v", s, got, e, want)
		}
	}
	s := strings.Repeat("2x1,", 249) + "2x1"
	if l, e := words.ParseList(s); len(l) != 500 || e != api.OK {
		t.Errorf("ParseList(%s): %d numbers, %d", s, len(l), e)
	}
}

// P1.3
func TestParseListErrors(t *testing.T) {
	huge := strings.Repeat("9", 600)
	for want, texts := range map[api.Errno][]string{
		api.ErrForm: {
			",", "1,", ",1", "1,,2", " ", "1 ", "1, 2", "a", "-", "x", "-1", "1-", "x1", "1x", "1--2", "1xx2", "1-2-3", "2x3x4", "2x1-3", "1-2x3",
			"00", "01", "01-2", "1-02", "02x1", "2x01", "3-3", "4-3", "10-9", "0-0", "0x1", "1x1", "1x10000", "-0", "2x-1", "-2x1", "+1", "1;2", "2X3", "1\n", "\x00", "é",
			huge + "-" + huge, huge + "-" + huge[1:], huge + ",", "501x0,a", "10000,01", "0-9999,3-3", strings.Repeat(",", 2500),
		},
		api.ErrRange: {
			"10000", "1,10000", "9999-10000", "0-10000", "10000-10001", "2x10000", "501x10000", "501x0,10000", "10000,501x0", "18446744073709551616", "18446744073709551617-18446744073709551618",
			huge, huge[1:] + "-" + huge, "2x" + huge, huge + "x" + huge, strings.Repeat("9", 2500),
		},
		api.ErrLong: {
			"501x0", "9999x9999", "10000x0", "0-500", "9499-9999", "0-9999", "499x1,0,1", "250x1,251x2", huge + "x1", "18446744073709551618x0",
			strings.Repeat("1,", 500) + "1", strings.Repeat("0-9999,", 300) + "1", strings.Repeat(",", 2501), strings.Repeat("9", 2501), strings.Repeat("a", 5000),
		},
	} {
		for _, s := range texts {
			if l, e := words.ParseList(s); len(l) != 0 || e != want {
				t.Errorf("ParseList(%.40q), %d bytes: %v, %d, want %d", s, len(s), l, e, want)
			}
		}
	}
}

// P1.3: the longest list expression of any list is not too long to be parsed
func TestLongestList(t *testing.T) {
	var l []int
	for i := range 500 {
		l = append(l, 9999-3*i)
	}
	s, e := words.List(l)
	if len(s) != 2499 || e != api.OK {
		t.Errorf("List: %d bytes, %d", len(s), e)
	}
	if got, e := words.ParseList(s); !slices.Equal(got, l) || e != api.OK {
		t.Errorf("ParseList: %v, %d", got, e)
	}
}

// wantNumber is the number with that decimal form, or 10000 if it is greater.
func wantNumber(s string) int {
	n, _ := new(big.Int).SetString(s, 10)
	if n.Cmp(big.NewInt(10000)) > 0 {
		return 10000
	}
	return int(n.Int64())
}

var itemForm = regexp.MustCompile(`^(?:(0|[1-9][0-9]*)([x-]))?(0|[1-9][0-9]*)\z`)

// wantParseList is ParseList by regular expressions and numbers of any size, but for too long expressions.
func wantParseList(s string) ([]int, api.Errno) {
	var list []int
	tooGreat := false
	for _, text := range strings.Split(s, ",") {
		m := itemForm.FindStringSubmatch(text)
		if m == nil {
			return nil, api.ErrForm
		}
		b := wantNumber(m[3])
		tooGreat = tooGreat || b == 10000
		switch m[2] {
		case "":
			list = append(list, b)
		case "x":
			if wantNumber(m[1]) < 2 {
				return nil, api.ErrForm
			}
			list = append(list, slices.Repeat([]int{b}, wantNumber(m[1]))...)
		case "-":
			x, _ := new(big.Int).SetString(m[1], 10)
			y, _ := new(big.Int).SetString(m[3], 10)
			if x.Cmp(y) >= 0 {
				return nil, api.ErrForm
			}
			list = append(list, upTo(wantNumber(m[1]), b)...)
		}
	}
	if tooGreat {
		return nil, api.ErrRange
	}
	if len(list) > 500 {
		return nil, api.ErrLong
	}
	return list, api.OK
}

// P1.3
func TestParseListOfRandomTexts(t *testing.T) {
	r := rand.New(rand.NewSource(2))
	seen := map[api.Errno]int{}
	for range 200000 {
		s := randomText(r, "0112359,,-x", 14)
		if s == "" {
			continue
		}
		got, e := words.ParseList(s)
		want, wantE := wantParseList(s)
		if !slices.Equal(got, want) || e != wantE {
			t.Fatalf("ParseList(%s): %v, %d; want %v, %d", s, got, e, want, wantE)
		}
		seen[e]++
	}
	for _, e := range []api.Errno{api.OK, api.ErrForm, api.ErrRange, api.ErrLong} {
		if seen[e] < 20 {
			t.Errorf("only %d random texts with error %d", seen[e], e)
		}
	}
}

// inOrder calls do with the texts of n bytes of the alphabet, in the alphabet's order.
func inOrder(alphabet string, n int, do func(string)) {
	text := make([]byte, n)
	var fill func(at int)
	fill = func(at int) {
		if at == n {
			do(string(text))
			return
		}
		for i := range len(alphabet) {
			text[at] = alphabet[i]
			fill(at + 1)
		}
	}
	fill(0)
}

// P1.3, P1.9: of all texts, the shorter ones first, and those of a length in byte order, the first one that stands for a list is its canonical expression.
func TestCanonicalIsFirstOfAllTexts(t *testing.T) {
	first := map[string]string{}
	check := func(s string) {
		l, e := words.ParseList(s)
		if e != api.OK || len(l) > 60 {
			return
		}
		var key strings.Builder
		for _, n := range l {
			key.WriteString(strconv.Itoa(n) + " ")
		}
		want, seen := first[key.String()]
		if !seen {
			want = s
			first[key.String()] = s
		}
		if got, e := words.List(l); got != want || e != api.OK {
			t.Fatalf("List(%v): %s, %d, want %s", l, got, e, want)
		}
	}
	for n := range 5 {
		inOrder(",-0123456789x", n, check)
	}
	inOrder(",-0129x", 5, check)
	inOrder(",-01x", 6, check)
	if len(first) < 3000 {
		t.Errorf("only %d lists", len(first))
	}
}

// wantCanonical tries all expressions of l.
func wantCanonical(l []int) string {
	if len(l) == 0 {
		return ""
	}
	best := ""
	for n := 1; n <= len(l); n++ {
		a, b := strconv.Itoa(l[0]), strconv.Itoa(l[n-1])
		var items []string
		if n == 1 {
			items = append(items, a)
		}
		if n > 1 && slices.Equal(l[:n], upTo(l[0], l[0]+n-1)) {
			items = append(items, a+"-"+b)
		}
		if n > 1 && slices.Equal(l[:n], slices.Repeat(l[:1], n)) {
			items = append(items, strconv.Itoa(n)+"x"+a)
		}
		for _, s := range items {
			if n < len(l) {
				s += "," + wantCanonical(l[n:])
			}
			if best == "" || len(s) < len(best) || len(s) == len(best) && s < best {
				best = s
			}
		}
	}
	return best
}

// randomList returns at most most numbers, with many runs, near where the number of digits changes.
func randomList(r *rand.Rand, most int) []int {
	var l []int
	n := r.Intn(most + 1)
	for len(l) < n {
		x := []int{0, 8, 97, 998, 9990}[r.Intn(5)] + r.Intn(6)
		run := 1 + r.Intn(1+r.Intn(14))
		step := r.Intn(2)
		for i := 0; i < run && len(l) < n && x+i*step <= 9999; i++ {
			l = append(l, x+i*step)
		}
	}
	return l
}

// P1.3
func TestCanonicalOfRandomLists(t *testing.T) {
	r := rand.New(rand.NewSource(3))
	for range 20000 {
		l := randomList(r, 9)
		if got, e := words.List(l); got != wantCanonical(l) || e != api.OK {
			t.Fatalf("List(%v): %s, %d, want %s", l, got, e, wantCanonical(l))
		}
	}
}

// P1.8: ParseList of List is the list
func TestParseListOfList(t *testing.T) {
	r := rand.New(rand.NewSource(4))
	for range 300 {
		l := randomList(r, 500)
		s, e := words.List(l)
		if e != api.OK || len(s) > api.MaxListText {
			t.Fatalf("List(%v): %d bytes, %d", l, len(s), e)
		}
		if got, e := words.ParseList(s); !slices.Equal(got, l) || e != api.OK {
			t.Fatalf("ParseList(%s): %v, %d, want %v", s, got, e, l)
		}
	}
}

// randomExpression returns an expression that is seldom canonical.
func randomExpression(r *rand.Rand) string {
	var items []string
	for range 1 + r.Intn(8) {
		a, n := r.Intn(120), 2+r.Intn(11)
		items = append(items, []string{strconv.Itoa(a), strconv.Itoa(a) + "-" + strconv.Itoa(a+n-1), strconv.Itoa(n) + "x" + strconv.Itoa(a)}[r.Intn(3)])
	}
	return strings.Join(items, ",")
}

// P1.9
func TestListOfParseListIsNotAfter(t *testing.T) {
	r := rand.New(rand.NewSource(5))
	for range 3000 {
		s := randomExpression(r)
		l, e := words.ParseList(s)
		if e != api.OK {
			t.Fatalf("ParseList(%s): %d", s, e)
		}
		if c, e := words.List(l); e != api.OK || len(c) > len(s) || len(c) == len(s) && c > s {
			t.Fatalf("List of %s: %s, %d", s, c, e)
		}
	}
}

// P1.10
func TestJoinedExpressions(t *testing.T) {
	r := rand.New(rand.NewSource(6))
	for range 3000 {
		a, b := randomExpression(r), randomExpression(r)
		la, _ := words.ParseList(a)
		lb, _ := words.ParseList(b)
		both, e := words.ParseList(a + "," + b)
		if !slices.Equal(both, slices.Concat(la, lb)) || e != api.OK {
			t.Fatalf("ParseList(%s,%s): %v, %d", a, b, both, e)
		}
		ca, _ := words.List(la)
		cb, _ := words.List(lb)
		if c, e := words.List(both); e != api.OK || len(c) > len(ca)+1+len(cb) {
			t.Fatalf("List of %s,%s: %s, %d", a, b, c, e)
		}
	}
	for s, want := range map[string]api.Errno{"499x1,1": api.OK, "499x1,2x1": api.ErrLong, strings.Repeat("1,", 1249) + "10": api.ErrLong, strings.Repeat("10000,", 416) + "9999": api.ErrRange, strings.Repeat("10000,", 416) + "10000": api.ErrLong} {
		if _, e := words.ParseList(s); e != want {
			t.Errorf("ParseList(%.20s), %d bytes: %d, want %d", s, len(s), e, want)
		}
	}
}
