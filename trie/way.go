package trie

import (
	"iter"
	"strings"
)

// along tells the nodes whose keys begin a key, the root first, each with
// what of the key lies beyond it.
func (t *Trie) along(key string) iter.Seq2[*node, string] {
	return func(yield func(*node, string) bool) {
		if t == nil {
			return
		}
		n, rest := t.root, key
		for yield(n, rest) && rest != "" {
			kid := n.kids[rest[0]]
			if kid == nil || !strings.HasPrefix(rest, kid.label) {
				return
			}
			n, rest = kid, rest[len(kid.label):]
		}
	}
}

// end is the last node along a key, the one above it (none, if it is the
// root), and what of the key lies beyond it.
func (t *Trie) end(key string) (last, above *node, beyond string) {
	for n, rest := range t.along(key) {
		last, above, beyond = n, last, rest
	}
	return last, above, beyond
}

// top is the highest node whose key begins with the prefix, and that key.
func (t *Trie) top(prefix string) (*node, string) {
	n, _, rest := t.end(prefix)
	if n == nil || rest == "" {
		return n, prefix
	}
	kid := n.kids[rest[0]]
	if kid == nil || !strings.HasPrefix(kid.label, rest) {
		return nil, ""
	}
	return kid, prefix[:len(prefix)-len(rest)] + kid.label
}

// toward goes from a node to its kid on the way to the rest, which is made
// if there is none, and tells what of the rest lies beyond it.
func (t *Trie) toward(n *node, rest string) (*node, string) {
	kid := n.kids[rest[0]]
	if kid == nil {
		kid = newNode(rest)
		n.kids[rest[0]] = kid
		t.nodes++
		return kid, ""
	}
	shared := common(kid.label, rest)
	if shared < len(kid.label) {
		kid.part(shared)
		t.nodes++
	}
	return kid, rest[shared:]
}

// tidy takes away the nodes that need not be there any more, now that one
// has no value: that one itself, or the one above it, which may have been
// there only because of its kids.
func (t *Trie) tidy(n, above *node) {
	if n != t.root && len(n.kids) == 0 {
		delete(above.kids, n.label[0])
		t.nodes--
		n = above
	}
	if n != t.root && !n.has && len(n.kids) == 1 {
		n.absorb()
		t.nodes--
	}
}
