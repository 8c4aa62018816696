package trie

import (
	"slices"

	"caesura/api"
)

const (
	gapLow  = 0xD800 // from here on
	gapHigh = 0xDFFF // to here there are points that are no scalar values
)

// checkEntry looks at all points, of an entry that is too long too: what is no scalar value is told first.
func checkEntry(entry []int) error {
	if len(entry) == 0 || slices.ContainsFunc(entry, isNoScalar) {
		return api.ErrArg
	}
	if len(entry) > api.MaxEntry {
		return api.ErrMany
	}
	return nil
}

func isNoScalar(point int) bool {
	return point < 0 || point > api.MaxPoint || gapLow <= point && point <= gapHigh
}

func (t *Trie) add(number int, entry []int) error {
	n := &t.root
	for _, point := range entry {
		n = t.childOf(n, point)
	}
	if n.whole {
		return api.ErrTwice
	}
	n.whole, n.entry = true, number
	return nil
}

// childOf makes the child, if it is not there yet.
func (t *Trie) childOf(n *node, point int) *node {
	if child := n.children[point]; child != nil {
		return child
	}
	if n.children == nil {
		n.children = map[int]*node{}
	}
	child := &node{length: n.length + 1}
	n.children[point] = child
	t.below++
	return child
}

// link goes from short beginnings to long ones, as the links of a node are found by those of shorter ones. In which order the nodes of one length come does not matter.
func (t *Trie) link() {
	nodes := []*node{&t.root}
	for len(nodes) > 0 {
		var longer []*node
		for _, n := range nodes {
			for point, child := range n.children {
				child.shorter = t.step(n.shorter, point)
				child.inner = child.shorter.inner
				if child.shorter.whole {
					child.inner = child.shorter
				}
				longer = append(longer, child)
			}
		}
		nodes = longer
	}
}
