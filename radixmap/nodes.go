package radixmap

import (
	"polder/api"
	"polder/bits"
)

// place returns which kids lead to a page, that of the root and that of its middle node, and which word of its leaf is its own.
func place(page int) (inRoot, inMiddle, inLeaf int) {
	return page / middlePages, page / leafPages % api.RmFan, page % leafPages
}

// path returns the numbers of the middle node and of the leaf of a page, 0 for one that is not there.
func (m *Map) path(page int) (middle, leaf int) {
	inRoot, inMiddle, _ := place(page)
	middle = m.nodes[root].kids[inRoot]
	if middle == 0 {
		return 0, 0
	}
	return middle, m.nodes[middle].kids[inMiddle]
}

// word returns the packed description of a page, or 0.
func (m *Map) word(page int) uint64 {
	_, _, inLeaf := place(page)
	_, leaf := m.path(page)
	if leaf == 0 {
		return 0
	}
	return m.nodes[leaf].words[inLeaf]
}

// setWord gives a page a packed description. There must be numbers for the nodes that are missing.
func (m *Map) setWord(page int, word uint64) {
	inRoot, inMiddle, inLeaf := place(page)
	middle := m.kid(root, inRoot)
	leaf := m.kid(middle, inMiddle)
	m.nodes[leaf].words[inLeaf] = word
}

// clearWord takes the description of a page that has one, and the nodes that are empty without it.
func (m *Map) clearWord(page int) {
	inRoot, inMiddle, inLeaf := place(page)
	middle, leaf := m.path(page)
	m.nodes[leaf].words[inLeaf] = 0
	m.prune(middle, inMiddle)
	m.prune(root, inRoot)
}

// kid returns a kid of a node, which is made if it is not there.
func (m *Map) kid(parent, i int) int {
	kid := m.nodes[parent].kids[i]
	if kid == 0 {
		kid, _ = bits.Next(m.used, root+1, false) // it was checked before that there are enough
		m.put(kid, node{level: m.nodes[parent].level + 1})
		m.nodes[parent].kids[i] = kid
	}
	return kid
}

// put makes a node with a number that no node has.
func (m *Map) put(number int, n node) {
	m.nodes[number] = n
	m.used, _ = bits.Set(m.used, number, number+1, true)
}

// prune gives back a kid of a node if there is nothing in it.
func (m *Map) prune(parent, i int) {
	kid := m.nodes[parent].kids[i]
	if !m.nodes[kid].empty() {
		return
	}
	m.nodes[parent].kids[i] = 0
	m.used, _ = bits.Set(m.used, kid, kid+1, false)
}

// empty reports whether a node has no kids and no words.
func (n node) empty() bool {
	return n.kids == [api.RmRoot]int{} && n.words == [api.RmFan]uint64{}
}
