package words

import (
	"iter"
	"strconv"
	"strings"

	"polder/api"
)

// item is what an item of a list expression says: count numbers that begin with first, and grow by step.
type item struct{ first, count, step int }

// last is the greatest number of an item, which is also its last one.
func (x item) last() int {
	return x.first + (x.count-1)*x.step
}

// List returns the canonical expression of l.
func List(l []int) (string, api.Errno) {
	if len(l) > api.MaxList {
		return "", api.ErrLong
	}
	for _, n := range l {
		if n < 0 || n > api.MaxListNumber {
			return "", api.ErrRange
		}
	}
	return canonical(l), api.OK
}

// canonical finds the best expression of each rest of l, the shortest rest first: an item is best followed by the best expression of what it leaves.
func canonical(l []int) string {
	best := make([]string, len(l)+1)
	for at := len(l) - 1; at >= 0; at-- {
		for text, count := range itemsAt(l[at:]) {
			rest := best[at+count]
			if rest != "" {
				text += "," + rest
			}
			if best[at] == "" || before(text, best[at]) {
				best[at] = text
			}
		}
	}
	return best[0]
}

// before reports whether a is shorter than b, or as long and first in byte order.
func before(a, b string) bool {
	if len(a) != len(b) {
		return len(a) < len(b)
	}
	return a < b
}

// itemsAt yields the items that can start at the first number of l, each with how many numbers it stands for.
func itemsAt(l []int) iter.Seq2[string, int] {
	return func(yield func(string, int) bool) {
		first := strconv.Itoa(l[0])
		if !yield(first, 1) {
			return
		}
		for n := 2; n <= len(l) && l[n-1] == l[0]+n-1; n++ {
			if !yield(first+"-"+strconv.Itoa(l[n-1]), n) {
				return
			}
		}
		for n := 2; n <= len(l) && l[n-1] == l[0]; n++ {
			if !yield(strconv.Itoa(n)+"x"+first, n) {
				return
			}
		}
	}
}

// ParseList returns the list that the list expression s stands for.
func ParseList(s string) ([]int, api.Errno) {
	if len(s) > api.MaxListText {
		return nil, api.ErrLong
	}
	items, ok := parseItems(s)
	if !ok {
		return nil, api.ErrForm
	}
	total := 0
	for _, x := range items {
		if x.last() > api.MaxListNumber {
			return nil, api.ErrRange
		}
		total += x.count
	}
	if total > api.MaxList {
		return nil, api.ErrLong
	}
	list := make([]int, 0, total)
	for _, x := range items {
		for i := range x.count {
			list = append(list, x.first+i*x.step)
		}
	}
	return list, api.OK
}

// parseItems returns the items of s, and whether s consists of items.
func parseItems(s string) ([]item, bool) {
	if s == "" {
		return nil, true
	}
	var items []item
	for text := range strings.SplitSeq(s, ",") {
		x, ok := parseItem(text)
		if !ok {
			return nil, false
		}
		items = append(items, x)
	}
	return items, true
}

// parseItem returns the item s, and whether s is one.
func parseItem(s string) (item, bool) {
	if times, number, ok := strings.Cut(s, "x"); ok {
		x := item{first: clamped(number), count: clamped(times)}
		return x, isNatural(times) && isNatural(number) && x.count >= 2
	}
	if from, to, ok := strings.Cut(s, "-"); ok {
		x := item{first: clamped(from), count: clamped(to) - clamped(from) + 1, step: 1}
		return x, isNatural(from) && isNatural(to) && before(from, to) // without leading zeros, the shorter number is the smaller one
	}
	return item{first: clamped(s), count: 1}, isNatural(s)
}

// clamped returns the number whose decimal form is s, or MaxListNumber + 1 if it is greater: both are too many for every purpose here.
func clamped(s string) int {
	n, e := Int(s, 0, api.MaxListNumber)
	if e == api.ErrRange {
		return api.MaxListNumber + 1
	}
	return int(n)
}
