package graph

import "sargasso/api"

// Up are the one that goes by id, and all that it hangs on, that those hang on, and so on, in the order of digest.Less; none where it is not there.
func (g *Graph) Up(id api.Hash) []api.Hash {
	return byLess(g.reach(id, g.above))
}

// Down are the one that goes by id, and all that hang on it, on those, and so on, in the order of digest.Less; none where it is not there.
func (g *Graph) Down(id api.Hash) []api.Hash {
	return byLess(g.reach(id, g.below))
}

// UpSum is Up counted.
func (g *Graph) UpSum(id api.Hash) Sum {
	return sumOf(g.reach(id, g.above))
}

// DownSum is Down counted.
func (g *Graph) DownSum(id api.Hash) Sum {
	return sumOf(g.reach(id, g.below))
}

// above are those that are there and that n hangs on, one for each In that spends an Out of it.
func (g *Graph) above(n *node) (l []*node) {
	for _, in := range n.tx.Ins {
		up, is := g.nodes[in.From.Tx]
		if is && uint64(in.From.N) < uint64(len(up.tx.Outs)) {
			l = append(l, up)
		}
	}
	return l
}

// below are those that are there and hang on n, one for each Out that one of them spends. It asks nothing of n's being there.
func (g *Graph) below(n *node) (l []*node) {
	for i := range n.tx.Outs {
		if down, is := g.spent[api.Point{Tx: n.id, N: uint32(i)}]; is {
			l = append(l, down)
		}
	}
	return l
}

// reach are the one that goes by id, and all that steps of next lead to from it, each of them once; none where it is not there.
func (g *Graph) reach(id api.Hash, next func(*node) []*node) []*node {
	first, is := g.nodes[id]
	if !is {
		return nil
	}
	l := []*node{first}
	met := map[api.Hash]struct{}{id: {}}
	for i := 0; i < len(l); i++ {
		for _, n := range next(l[i]) {
			if _, is := met[n.id]; is {
				continue
			}
			met[n.id] = struct{}{}
			l = append(l, n)
		}
	}
	return l
}
