package radixmap

import (
	"slices"

	"polder/api"
	"polder/bits"
)

// Check returns the first node that is wrong in s, and ErrForm, or OK if s is the state of a map.
func Check(s api.RmState) (node int, e api.Errno) {
	if !validMost(s.Most) {
		return 0, api.ErrRange
	}
	if len(s.Nodes) != s.Most {
		return 0, api.ErrForm
	}
	for number := range s.Nodes {
		if !right(s, number) {
			return number, api.ErrForm
		}
	}
	return 0, api.OK
}

// Load returns a map with the state s.
func Load(s api.RmState) (*Map, api.Errno) {
	if _, e := Check(s); e != api.OK {
		return nil, e
	}
	m := unused(s.Most)
	for number, n := range s.Nodes {
		if n.Level != noLevel {
			m.put(number, loaded(n))
		}
	}
	return m, api.OK
}

// loaded returns the node of a state as one of a map.
func loaded(n api.RmNode) node {
	l := node{level: n.Level}
	copy(l.kids[:], n.Kids)
	copy(l.words[:], n.Words)
	return l
}

// Save returns the state.
func (m *Map) Save() api.RmState {
	if !m.made() {
		return api.RmState{}
	}
	s := api.RmState{Most: len(m.nodes), Nodes: make([]api.RmNode, len(m.nodes))}
	for number, n := range m.nodes {
		s.Nodes[number] = api.RmNode{Level: noLevel}
		if is, _ := bits.Get(m.used, number); is {
			s.Nodes[number] = saved(n)
		}
	}
	return s
}

// saved returns the node of a map as one of a state.
func saved(n node) api.RmNode {
	kids, words := sizes(n.level)
	return api.RmNode{Level: n.level, Kids: slices.Clone(n.kids[:kids]), Words: slices.Clone(n.words[:words])}
}

// sizes returns how many kids and words a node of a level has.
func sizes(level int) (kids, words int) {
	switch level {
	case rootLevel:
		return api.RmRoot, 0
	case middleLevel:
		return api.RmFan, 0
	case leafLevel:
		return 0, api.RmFan
	}
	return 0, 0
}

// right reports whether a node of s is not wrong.
func right(s api.RmState, number int) bool {
	n := s.Nodes[number]
	kids, words := sizes(n.Level)
	if !rightLevel(number, n.Level) || len(n.Kids) != kids || len(n.Words) != words {
		return false
	}
	if !rightKids(s, n) || !rightWords(n) {
		return false
	}
	if n.Level == middleLevel || n.Level == leafLevel {
		return !loaded(n).empty() && timesKid(s, number) == 1
	}
	return true
}

// rightLevel reports whether a node may have a level.
func rightLevel(number, level int) bool {
	if number == root {
		return level == rootLevel
	}
	return level == noLevel || level == middleLevel || level == leafLevel
}

// rightKids reports whether the kids of a node are 0, or nodes of the next level.
func rightKids(s api.RmState, n api.RmNode) bool {
	for _, kid := range n.Kids {
		if kid == 0 {
			continue
		}
		if kid < 0 || kid >= len(s.Nodes) || s.Nodes[kid].Level != n.Level+1 {
			return false
		}
	}
	return true
}

// rightWords reports whether the words of a node are 0, or packed descriptions.
func rightWords(n api.RmNode) bool {
	for _, word := range n.Words {
		if word == 0 {
			continue
		}
		if _, e := Unpack(word); e != api.OK {
			return false
		}
	}
	return true
}

// timesKid returns how often a node is a kid of nodes of the level before its own. All of these count, also such as are wrong themselves.
func timesKid(s api.RmState, number int) int {
	times := 0
	for _, parent := range s.Nodes {
		if parent.Level != s.Nodes[number].Level-1 {
			continue
		}
		for _, kid := range parent.Kids {
			if kid == number {
				times++
			}
		}
	}
	return times
}
