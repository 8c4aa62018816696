package trie

// node is a beginning of entries.
type node struct {
	children map[int]*node
	length   int
	whole    bool // it is an entry, of the number entry
	entry    int
	shorter  *node // the longest beginning that this one ends with, but for itself; nil at the root
	inner    *node // the longest entry that this one ends with, but for itself; nil, if there is none
}

// ending goes through the entries that a beginning ends with, the longest first.
func (n *node) ending(yield func(*node) bool) {
	if !n.whole {
		n = n.inner
	}
	for ; n != nil; n = n.inner {
		if !yield(n) {
			return
		}
	}
}

// step is the longest beginning with which n and the point behind it end.
func (t *Trie) step(n *node, point int) *node {
	for ; n != nil; n = n.shorter {
		if child := n.children[point]; child != nil {
			return child
		}
	}
	return &t.root
}
