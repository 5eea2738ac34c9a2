package radixmap_test

import (
	"math/rand"
	"slices"
	"testing"

	"polder/api"
	"polder/radixmap"
)

// faults returns, for each reason for which a node may be wrong, whether it is wrong for it.
func faults(s api.RmState, number int) map[string]bool {
	n := s.Nodes[number]
	times, missing := 0, false
	for _, parent := range s.Nodes {
		for _, kid := range parent.Kids {
			if kid == number && parent.Level == n.Level-1 {
				times++
			}
		}
	}
	for _, kid := range n.Kids {
		if kid != 0 && (kid < 0 || kid >= len(s.Nodes) || s.Nodes[kid].Level != n.Level+1) {
			missing = true
		}
	}
	notZero := func(x uint64) bool { return x != 0 }
	return map[string]bool{
		"level": number == 0 && n.Level != 0 || number != 0 && !slices.Contains([]int{-1, 1, 2}, n.Level),
		"kids":  len(n.Kids) != map[int]int{0: 16, 1: 8}[n.Level],
		"words": len(n.Words) != map[int]int{2: 8}[n.Level],
		"kid":   missing,
		"word":  slices.ContainsFunc(n.Words, func(x uint64) bool { return x != 0 && !isPacked(x) }),
		"empty": n.Level == 1 && !slices.ContainsFunc(n.Kids, func(kid int) bool { return kid != 0 }) || n.Level == 2 && !slices.ContainsFunc(n.Words, notZero),
		"times": (n.Level == 1 || n.Level == 2) && times != 1,
	}
}

// isPacked reports whether x is a packed description.
func isPacked(x uint64) bool {
	return x%2 == 1 && x < 1<<58 && x/131072%(1<<40) <= 1000000000000
}

// checkOf returns what Check should return, and the only reason for it, if there is just one.
func checkOf(s api.RmState) (node int, e api.Errno, reason string) {
	if s.Most < 1 || s.Most > 145 {
		return 0, api.ErrRange, ""
	}
	if len(s.Nodes) != s.Most {
		return 0, api.ErrForm, ""
	}
	for number := range s.Nodes {
		var reasons []string
		for name, is := range faults(s, number) {
			if is {
				reasons = append(reasons, name)
			}
		}
		if len(reasons) == 1 {
			return number, api.ErrForm, reasons[0]
		}
		if len(reasons) > 1 {
			return number, api.ErrForm, ""
		}
	}
	return 0, api.OK, ""
}

// checkCheck compares what Check and Load return for s with what they should; s is not copied.
func checkCheck(t *testing.T, s api.RmState, node int, e api.Errno, what ...any) {
	t.Helper()
	check(t, of(radixmap.Check(s)), of(node, e), what...)
	if e == api.OK {
		checkState(t, load(t, s), s, what...)
		return
	}
	m, got := radixmap.Load(s)
	check(t, got, e, what...)
	check(t, m == nil, true, what...)
}

// small returns a state with the leaves 2 (of the pages 0 to 7), 3 (of 8 to 15) and 5 (of 64 to 71), the middle nodes 1 and 4, and one number without a node.
func small() api.RmState {
	m := newModel(7)
	m.Set(7, 9, five())
	m.Set(64, 66, api.RmDesc{Owner: 9, Huge: true})
	return m.Save()
}

// P7.2: states with one fault, and states with another number that is right too
func TestCheck(t *testing.T) {
	leaf := func() api.RmNode { return api.RmNode{Level: 2, Words: []uint64{1, 0, 0, 0, 0, 0, 0, 0}} }
	middle := func(kid int) api.RmNode { return api.RmNode{Level: 1, Kids: []int{kid, 0, 0, 0, 0, 0, 0, 0}} }
	for name, c := range map[string]struct {
		change func(s *api.RmState)
		node   int
		want   api.Errno
	}{
		"nothing":                           {func(s *api.RmState) {}, 0, api.OK},
		"most 0":                            {func(s *api.RmState) { s.Most = 0 }, 0, api.ErrRange},
		"most 0, no nodes":                  {func(s *api.RmState) { *s = api.RmState{} }, 0, api.ErrRange},
		"most 146":                          {func(s *api.RmState) { s.Most = 146 }, 0, api.ErrRange},
		"most 146, as many nodes":           {func(s *api.RmState) { s.Most, s.Nodes = 146, make([]api.RmNode, 146) }, 0, api.ErrRange},
		"most -1, a wrong node":             {func(s *api.RmState) { s.Most, s.Nodes[2].Level = -1, 0 }, 0, api.ErrRange},
		"a node too few":                    {func(s *api.RmState) { s.Nodes = s.Nodes[:6] }, 0, api.ErrForm},
		"a node too many":                   {func(s *api.RmState) { s.Nodes = append(s.Nodes, api.RmNode{Level: -1}) }, 0, api.ErrForm},
		"a node too few, another one wrong": {func(s *api.RmState) { s.Most, s.Nodes[3].Level = 8, 0 }, 0, api.ErrForm},
		"no nodes":                          {func(s *api.RmState) { s.Nodes = nil }, 0, api.ErrForm},

		"the root is a middle node":       {func(s *api.RmState) { s.Nodes[0].Level = 1 }, 0, api.ErrForm},
		"no root":                         {func(s *api.RmState) { s.Nodes[0] = api.RmNode{Level: -1} }, 0, api.ErrForm},
		"a second root":                   {func(s *api.RmState) { s.Nodes[6] = api.RmNode{Level: 0, Kids: make([]int, 16)} }, 6, api.ErrForm},
		"a node below the leaves":         {func(s *api.RmState) { s.Nodes[6].Level = 3 }, 6, api.ErrForm},
		"the level -2":                    {func(s *api.RmState) { s.Nodes[6].Level = -2 }, 6, api.ErrForm},
		"the root has too few kids":       {func(s *api.RmState) { s.Nodes[0].Kids = s.Nodes[0].Kids[:15] }, 0, api.ErrForm},
		"the root has too many kids":      {func(s *api.RmState) { s.Nodes[0].Kids = append(s.Nodes[0].Kids, 0) }, 0, api.ErrForm},
		"the root has words":              {func(s *api.RmState) { s.Nodes[0].Words = make([]uint64, 8) }, 0, api.ErrForm},
		"a middle node has too few kids":  {func(s *api.RmState) { s.Nodes[1].Kids = s.Nodes[1].Kids[:7] }, 1, api.ErrForm},
		"a middle node has too many kids": {func(s *api.RmState) { s.Nodes[1].Kids = append(s.Nodes[1].Kids, 0) }, 1, api.ErrForm},
		"a middle node has 16 kids":       {func(s *api.RmState) { s.Nodes[1].Kids = append(s.Nodes[1].Kids, make([]int, 8)...) }, 1, api.ErrForm},
		"a middle node has words":         {func(s *api.RmState) { s.Nodes[1].Words = []uint64{1} }, 1, api.ErrForm},
		"a leaf has a kid":                {func(s *api.RmState) { s.Nodes[2].Kids = []int{0} }, 2, api.ErrForm},
		"a leaf has too few words":        {func(s *api.RmState) { s.Nodes[2].Words = s.Nodes[2].Words[1:] }, 2, api.ErrForm},
		"a leaf has too many words":       {func(s *api.RmState) { s.Nodes[2].Words = append(s.Nodes[2].Words, 0) }, 2, api.ErrForm},
		"no node, but kids":               {func(s *api.RmState) { s.Nodes[6].Kids = []int{0} }, 6, api.ErrForm},
		"no node, but words":              {func(s *api.RmState) { s.Nodes[6].Words = make([]uint64, 8) }, 6, api.ErrForm},

		"a kid of the root is a leaf":        {func(s *api.RmState) { s.Nodes[0].Kids[5] = 2 }, 0, api.ErrForm},
		"a kid of the root is none":          {func(s *api.RmState) { s.Nodes[0].Kids[5] = 6 }, 0, api.ErrForm},
		"a kid of the root is below 0":       {func(s *api.RmState) { s.Nodes[0].Kids[5] = -1 }, 0, api.ErrForm},
		"a kid of the root is too great":     {func(s *api.RmState) { s.Nodes[0].Kids[5] = 7 }, 0, api.ErrForm},
		"a kid of a middle node is another":  {func(s *api.RmState) { s.Nodes[1].Kids[5] = 4 }, 1, api.ErrForm},
		"a kid of a middle node is itself":   {func(s *api.RmState) { s.Nodes[1].Kids[5] = 1 }, 1, api.ErrForm},
		"a kid of a middle node is none":     {func(s *api.RmState) { s.Nodes[4].Kids[5] = 6 }, 4, api.ErrForm},
		"a kid of a middle node is no node":  {func(s *api.RmState) { s.Nodes[4].Kids[7] = 7 }, 4, api.ErrForm},
		"a word that is even":                {func(s *api.RmState) { s.Nodes[2].Words[0] = 2 }, 2, api.ErrForm},
		"a word that is too great":           {func(s *api.RmState) { s.Nodes[3].Words[7] = 1<<58 + 1 }, 3, api.ErrForm},
		"a word whose stamp is too great":    {func(s *api.RmState) { s.Nodes[5].Words[3] = 131072*1000000000001 + 1 }, 5, api.ErrForm},
		"a word that is another one":         {func(s *api.RmState) { s.Nodes[2].Words[7] = 1 }, 0, api.OK},
		"a word more":                        {func(s *api.RmState) { s.Nodes[2].Words[0] = 1 }, 0, api.OK},
		"a word less":                        {func(s *api.RmState) { s.Nodes[5].Words[1] = 0 }, 0, api.OK},
		"a leaf without words":               {func(s *api.RmState) { s.Nodes[2].Words[7] = 0 }, 2, api.ErrForm},
		"a leaf that is nobody's kid":        {func(s *api.RmState) { s.Nodes[1].Kids[1] = 0 }, 3, api.ErrForm},
		"a new leaf that is nobody's kid":    {func(s *api.RmState) { s.Nodes[6] = leaf() }, 6, api.ErrForm},
		"a new leaf":                         {func(s *api.RmState) { s.Nodes[6], s.Nodes[1].Kids[7] = leaf(), 6 }, 0, api.OK},
		"a leaf that is twice a kid of one":  {func(s *api.RmState) { s.Nodes[4].Kids[7] = 5 }, 5, api.ErrForm},
		"a leaf that is a kid of two":        {func(s *api.RmState) { s.Nodes[4].Kids[7] = 2 }, 2, api.ErrForm},
		"a middle node without kids":         {func(s *api.RmState) { s.Nodes[6], s.Nodes[0].Kids[3] = middle(0), 6 }, 6, api.ErrForm},
		"a middle node that loses its kid":   {func(s *api.RmState) { s.Nodes[4].Kids[0] = 0 }, 4, api.ErrForm},
		"a middle node that is nobody's kid": {func(s *api.RmState) { s.Nodes[0].Kids[0] = 0 }, 1, api.ErrForm},
		"a middle node that is twice a kid":  {func(s *api.RmState) { s.Nodes[0].Kids[15] = 4 }, 4, api.ErrForm},
		"kids in another order":              {func(s *api.RmState) { s.Nodes[0].Kids[0], s.Nodes[0].Kids[1] = 4, 1 }, 0, api.OK},
		"a kid in another place":             {func(s *api.RmState) { s.Nodes[0].Kids[0], s.Nodes[0].Kids[9] = 0, 1 }, 0, api.OK},

		"a kid of a second root":           {func(s *api.RmState) { s.Nodes[6] = api.RmNode{Level: 0, Kids: []int{4}} }, 4, api.ErrForm},
		"a kid of a second root alone":     {func(s *api.RmState) { s.Nodes[6], s.Nodes[0].Kids[1] = api.RmNode{Level: 0, Kids: []int{4}}, 0 }, 6, api.ErrForm},
		"a kid beyond those there may be":  {func(s *api.RmState) { s.Nodes[4].Kids = append(s.Nodes[4].Kids, 3) }, 3, api.ErrForm},
		"a kid of a leaf":                  {func(s *api.RmState) { s.Nodes[5].Kids = []int{2} }, 5, api.ErrForm},
		"a kid of a number without a node": {func(s *api.RmState) { s.Nodes[6].Kids = []int{2} }, 6, api.ErrForm},
		"two that are wrong":               {func(s *api.RmState) { s.Nodes[5].Words[0], s.Nodes[3].Words[0] = 2, 2 }, 3, api.ErrForm},
	} {
		s := small()
		c.change(&s)
		checkCheck(t, s, c.node, c.want, name)
		node, e, _ := checkOf(s)
		check(t, of(node, e), of(c.node, c.want), name, ": the test's own check")
	}
}

// P7.2: maps with one node alone, and the least and greatest numbers of nodes
func TestCheckMost(t *testing.T) {
	for most := -2; most < 150; most++ {
		for count := range 150 {
			s := api.RmState{Most: most, Nodes: slices.Repeat([]api.RmNode{{Level: -1}}, count)}
			if count > 0 {
				s.Nodes[0] = api.RmNode{Level: 0, Kids: make([]int, 16)}
			}
			want := api.OK
			if most < 1 || most > 145 {
				want = api.ErrRange
			} else if count != most {
				want = api.ErrForm
			}
			checkCheck(t, s, 0, want, "most ", most, " of ", count, " nodes")
		}
	}
	for _, most := range extremes {
		checkCheck(t, api.RmState{Most: most, Nodes: small().Nodes}, 0, api.ErrRange, "most ", most)
	}
}

// P7.2: each kid, each level and each word is another number
func TestCheckEachNumber(t *testing.T) {
	numbers := append([]int{}, extremes...)
	for i := -3; i < 10; i++ {
		numbers = append(numbers, i)
	}
	for number, n := range small().Nodes {
		for _, x := range numbers {
			s := small()
			s.Nodes[number].Level = x
			compareCheck(t, s)
			for i := range n.Kids {
				s := small()
				s.Nodes[number].Kids[i] = x
				compareCheck(t, s)
			}
		}
		for i := range n.Words {
			for bit := range 64 {
				s := small()
				s.Nodes[number].Words[i] ^= 1 << bit
				compareCheck(t, s)
			}
		}
	}
}

// compareCheck compares Check of s with what it should return, and returns this, and the only reason for it.
func compareCheck(t *testing.T, s api.RmState) (api.Errno, string) {
	t.Helper()
	node, e, reason := checkOf(s)
	checkCheck(t, s, node, e, "Check of ", s)
	return e, reason
}

// spoilOnce puts a fault into a state, or changes it so that it is still right.
func spoilOnce(r *rand.Rand, s *api.RmState) {
	n := &s.Nodes[r.Intn(len(s.Nodes))]
	number := r.Intn(len(s.Nodes)+2) - 1
	switch r.Intn(12) {
	case 0:
		n.Level = r.Intn(6) - 2
	case 1:
		n.Kids = append(n.Kids, number*r.Intn(2))
	case 2:
		n.Kids = n.Kids[:len(n.Kids)*r.Intn(8)/8]
	case 3:
		n.Words = append(n.Words, uint64(r.Intn(3)))
	case 4:
		n.Words = n.Words[:len(n.Words)*r.Intn(8)/8]
	case 5, 6, 7:
		if len(n.Kids) > 0 {
			n.Kids[r.Intn(len(n.Kids))] = number * r.Intn(4) / 3
		}
	case 8, 9:
		if len(n.Words) > 0 {
			n.Words[r.Intn(len(n.Words))] = []uint64{0, 1, 2, 1 << 58, 1<<58 + 1, 1<<57 + 1, 401419, r.Uint64()}[r.Intn(8)]
		}
	case 10:
		*n = s.Nodes[r.Intn(len(s.Nodes))]
		n.Kids, n.Words = slices.Clone(n.Kids), slices.Clone(n.Words)
	case 11:
		for i := range n.Words {
			n.Words[i] = 0
		}
	}
}

// P7.2: random states that are right, or wrong for one reason or several
func TestCheckRandom(t *testing.T) {
	r := rand.New(rand.NewSource(20))
	seen := map[string]int{}
	for range 500 {
		right := randomModel(r, 1+r.Intn(12), 150).Save()
		for range 30 {
			s := plain(right)
			for range r.Intn(4) {
				spoilOnce(r, &s)
			}
			e, reason := compareCheck(t, s)
			if e == api.OK {
				reason = "none"
			}
			seen[reason]++
		}
	}
	for _, reason := range []string{"none", "level", "kids", "words", "kid", "word", "empty", "times"} {
		if seen[reason] < 50 {
			t.Errorf("the reason %s was there %d times only: %v", reason, seen[reason], seen)
		}
	}
}

// P7.6: states of loaded maps, whose numbers need not be those that Set gives; calls go on with them
func TestLoadOtherNumbers(t *testing.T) {
	s := small()
	move := map[int]int{0: 0, 1: 4, 2: 1, 3: 6, 4: 2, 5: 3, 6: 5}
	moved := small()
	for number, n := range s.Nodes {
		kids := make([]int, len(n.Kids))
		for i, kid := range n.Kids {
			kids[i] = move[kid]
		}
		n.Kids = kids
		moved.Nodes[move[number]] = n
	}
	checkCheck(t, moved, 0, api.OK, "other numbers")
	m := load(t, moved)
	check(t, m.Nodes(), 6, "Nodes")
	check(t, m.Runs(), []api.RmRun{{From: 7, To: 9, Desc: five()}, {From: 64, To: 66, Desc: api.RmDesc{Owner: 9, Huge: true}}}, "Runs")
	check(t, m.Clear(7, 8), api.OK, "Clear(7, 8)")
	check(t, m.Save().Nodes[4].Kids, []int{0, 6, 0, 0, 0, 0, 0, 0}, "the kids of the node 4")
	check(t, m.Save().Nodes[1].Level, -1, "the level of the node 1")
	check(t, m.Set(80, 90, five()), api.OK, "Set(80, 90)")
	check(t, m.Save().Nodes[2].Kids, []int{3, 0, 1, 5, 0, 0, 0, 0}, "the kids of the node 2")
	check(t, m.Set(900, 901, five()), api.ErrFull, "Set(900, 901)")
	check(t, m.Clear(0, 64), api.OK, "Clear(0, 64)")
	check(t, m.Set(900, 901, five()), api.OK, "Set(900, 901)")
	check(t, m.Save().Nodes[0].Kids, []int{0, 2, 0, 0, 0, 0, 0, 0, 0, 0, 0, 0, 0, 0, 4, 0}, "the kids of the root")
	check(t, m.Save().Nodes[4].Kids, []int{6, 0, 0, 0, 0, 0, 0, 0}, "the kids of the node 4")
}
