package graph

import (
	"maps"
	"slices"
	"sort"

	"sargasso/api"
	"sargasso/digest"
	"sargasso/tx"
)

// Sum is transactions counted: how many, their bytes and their fees, which go round at 64 bits.
type Sum struct {
	Count, Bytes int
	Fee          uint64
}

// IDs are those of all, in the order of digest.Less.
func (g *Graph) IDs() []api.Hash {
	return byLess(g.list())
}

// Order are all, as they were added.
func (g *Graph) Order() []api.Tx {
	return inOrder(g.list())
}

// All is all of them counted.
func (g *Graph) All() Sum {
	return g.all
}

// list are all, in no order.
func (g *Graph) list() []*node {
	return slices.Collect(maps.Values(g.nodes))
}

// byLess are the ids of l, in the order of digest.Less.
func byLess(l []*node) (ids []api.Hash) {
	for _, n := range l {
		ids = append(ids, n.id)
	}
	sort.Slice(ids, func(i, j int) bool { return digest.Less(ids[i], ids[j]) })
	return ids
}

// inOrder are the transactions of l, as they were added, in new memory. It sorts l itself.
func inOrder(l []*node) (txs []api.Tx) {
	sort.Slice(l, func(i, j int) bool { return l[i].turn < l[j].turn })
	for _, n := range l {
		txs = append(txs, tx.Clone(n.tx))
	}
	return txs
}

// sumOf is l counted.
func sumOf(l []*node) (s Sum) {
	for _, n := range l {
		s = s.with(n)
	}
	return s
}

// with is s, and n beside.
func (s Sum) with(n *node) Sum {
	return Sum{Count: s.Count + 1, Bytes: s.Bytes + tx.Size(n.tx), Fee: s.Fee + n.fee}
}

// without is s, of which n is taken away.
func (s Sum) without(n *node) Sum {
	return Sum{Count: s.Count - 1, Bytes: s.Bytes - tx.Size(n.tx), Fee: s.Fee - n.fee}
}
