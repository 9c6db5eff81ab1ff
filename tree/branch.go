package tree

import (
	"slices"
	"sort"

	"sargasso/api"
	"sargasso/digest"
)

// Ancestor is the one of a height on the way from id down to the start, if there is one; id itself, too.
func (t *Tree) Ancestor(id api.Hash, height int) (api.Hash, bool) {
	n, is := t.nodes[id]
	if !is || height < 0 || height > n.height {
		return api.Hash{}, false
	}
	return n.downTo(height).id, true
}

// Common is the highest that is an ancestor of both, or one of them itself, if both are there.
func (t *Tree) Common(a, b api.Hash) (api.Hash, bool) {
	from, to, is := t.both(a, b)
	if !is {
		return api.Hash{}, false
	}
	return meet(from, to).id, true
}

// Path is the way from a to b, if both are there: what is taken back, a first, and what is put on, b last. Their Common is in neither.
func (t *Tree) Path(a, b api.Hash) ([]api.Hash, []api.Hash, bool) {
	from, to, is := t.both(a, b)
	if !is {
		return nil, nil, false
	}
	common := meet(from, to)
	on := to.above(common)
	slices.Reverse(on)
	return from.above(common), on, true
}

// Under are all that have id as an ancestor, and id itself, in the order of digest.Less.
func (t *Tree) Under(id api.Hash) []api.Hash {
	top, is := t.nodes[id]
	if !is {
		return nil
	}
	var ids []api.Hash
	for open := []*node{top}; len(open) > 0; {
		n := open[len(open)-1]
		open = append(open[:len(open)-1], n.kids...)
		ids = append(ids, n.id)
	}
	sort.Slice(ids, func(i, j int) bool { return digest.Less(ids[i], ids[j]) })
	return ids
}

// both are the nodes that go by a and by b, if both are there.
func (t *Tree) both(a, b api.Hash) (*node, *node, bool) {
	from, is := t.nodes[a]
	to, has := t.nodes[b]
	return from, to, is && has
}

// downTo is the one of a height, from 0 to n's own, on the way from n down to the start.
func (n *node) downTo(height int) *node {
	for n.height > height {
		n = n.parent
	}
	return n
}

// above are the ids on the way from n down to low, but for low's.
func (n *node) above(low *node) (ids []api.Hash) {
	for ; n != low; n = n.parent {
		ids = append(ids, n.id)
	}
	return ids
}

// meet is the highest that is on the way down from a and on the one from b.
func meet(a, b *node) *node {
	low := min(a.height, b.height)
	a, b = a.downTo(low), b.downTo(low)
	for a != b {
		a, b = a.parent, b.parent
	}
	return a
}
