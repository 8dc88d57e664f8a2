package trie

// tree is entries by their prefixes: beneath a node stand those that begin with its prefix.
type tree struct {
	root  *node
	count int // how many entries
}

// node is an entry, or a prefix at which those of two entries part: other nodes there are none, so that there are never twice as many as entries.
type node struct {
	prefix
	first uint64   // its region's first address; 0, if it is no entry
	kids  [2]*node // what stands beneath it, by the bit behind its prefix
}

// longest answers the longest entry with whose prefix p begins; nil, if there is none.
func (t *tree) longest(p prefix) *node {
	var best *node
	var walk func(n *node, known int)
	walk = func(n *node, known int) {
		if n == nil || same(n.prefix, p, known) < n.length {
			return
		}
		if n.first != 0 {
			best = n
		}
		if n.length < p.length {
			walk(n.kids[p.bit(n.length)], n.length)
		}
	}
	walk(t.root, 0)
	return best
}

// find answers the entry of just that prefix; nil, if there is none.
func (t *tree) find(p prefix) *node {
	// If there is one, no other entry that p begins with is as long.
	n := t.longest(p)
	if n == nil || n.length < p.length {
		return nil
	}
	return n
}

// add makes an entry of a prefix that has none.
func (t *tree) add(p prefix, first uint64) {
	var walk func(n *node, known int) *node
	walk = func(n *node, known int) *node {
		if n == nil {
			return &node{prefix: p, first: first}
		}
		if shared := same(n.prefix, p, known); shared < n.length {
			n = n.parted(shared)
		}
		if n.length == p.length {
			n.first = first
			return n
		}
		next := p.bit(n.length)
		n.kids[next] = walk(n.kids[next], n.length)
		return n
	}
	t.root = walk(t.root, 0)
	t.count++
}

// drop takes the entry of a prefix off, which must be there.
func (t *tree) drop(p prefix) {
	var walk func(n *node) *node
	walk = func(n *node) *node {
		if n.length == p.length {
			n.first = 0
			return n.needed()
		}
		next := p.bit(n.length)
		n.kids[next] = walk(n.kids[next])
		return n.needed()
	}
	t.root = walk(t.root)
	t.count--
}

// each calls visit with every entry.
func (t *tree) each(visit func(n *node)) {
	var walk func(n *node)
	walk = func(n *node) {
		if n == nil {
			return
		}
		if n.first != 0 {
			visit(n)
		}
		for _, kid := range n.kids {
			walk(kid)
		}
	}
	walk(t.root)
}

// above answers the entry with the least form above form; nil, if there is none.
func (t *tree) above(form string) *node {
	var least *node
	t.each(func(n *node) {
		if n.form > form && (least == nil || n.form < least.form) {
			least = n
		}
	})
	return least
}

// parted answers a node of n's first length bits, beneath which n stands.
func (n *node) parted(length int) *node {
	above := &node{prefix: cut(n.form, length)}
	above.kids[n.bit(length)] = n
	return above
}

// needed answers n, or what stands in its place, if it is no entry and nothing parts at it any more.
func (n *node) needed() *node {
	switch {
	case n.first != 0 || n.kids[0] != nil && n.kids[1] != nil:
		return n
	case n.kids[0] != nil:
		return n.kids[0]
	}
	return n.kids[1]
}
