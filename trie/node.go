package trie

import (
	"iter"
	"maps"
	"slices"
	"strings"
)

// node is a place in the tree; its kids stand by their labels' first bytes.
type node struct {
	label string
	value string
	has   bool
	kids  map[byte]*node
}

// newNode has neither a value nor kids. Its label is a clone, as a piece of
// a key would hold on to the whole.
func newNode(label string) *node {
	return &node{label: strings.Clone(label), kids: make(map[byte]*node)}
}

// part cuts a node's label in two; what the node has goes to a new kid, so
// that whoever holds the node now holds the upper part.
func (n *node) part(at int) {
	lower, upper := newNode(n.label[at:]), newNode(n.label[:at])
	lower.value, lower.has, lower.kids = n.value, n.has, n.kids
	upper.kids[lower.label[0]] = lower
	*n = *upper
}

// absorb undoes a part: a node without a value and its only kid become one.
func (n *node) absorb() {
	for _, only := range n.kids {
		n.label += only.label
		n.value, n.has, n.kids = only.value, only.has, only.kids
	}
}

// copied is a node with the same, and so are all below it.
func (n *node) copied() *node {
	c := newNode(n.label)
	c.value, c.has = n.value, n.has
	for first, kid := range n.kids {
		c.kids[first] = kid.copied()
	}
	return c
}

// all tells the entries of a node, whose key is given, and of those below it.
func (n *node) all(key string) iter.Seq[Entry] {
	return func(yield func(Entry) bool) {
		n.tell(key, yield)
	}
}

// tell answers whether more is wanted. It hands yield on as it is: were each
// node to range over its kids' entries, an entry far below would pass
// through all nodes above it.
func (n *node) tell(key string, yield func(Entry) bool) bool {
	if n.has && !yield(Entry{Key: key, Value: n.value}) {
		return false
	}
	for _, first := range slices.Sorted(maps.Keys(n.kids)) {
		kid := n.kids[first]
		if !kid.tell(key+kid.label, yield) {
			return false
		}
	}
	return true
}

// common is how many bytes two texts have in common at their beginning.
func common(a, b string) int {
	n := min(len(a), len(b))
	for i := range n {
		if a[i] != b[i] {
			return i
		}
	}
	return n
}
