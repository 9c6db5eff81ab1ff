package best_test

import (
	"bytes"
	"slices"
	"testing"

	"sargasso/api"
	"sargasso/best"
	"sargasso/head"
	"sargasso/tree"
)

// someHash is a digest of unlike bytes, another one for each n.
func someHash(n int) (h api.Hash) {
	for i := range h {
		h[i] = byte(11*i + 17*n + 3)
	}
	return h
}

// on is a header on the one that goes by prev, another one for each n.
func on(prev api.Hash, n, work uint32) api.Head {
	return api.Head{Version: 1, Prev: prev, Root: someHash(int(n)), Time: 1000 + n, Work: work, Nonce: n}
}

// model is what a tree and Marks over it should show: of each id that is there its header, the ids on its way down to the start, its own first, and those that Bad was told of.
type model struct {
	start api.Hash
	heads map[api.Hash]api.Head
	ways  map[api.Hash][]api.Hash
	bad   []api.Hash
}

// begun is a tree of a start of this work, and its model. The start's Prev is none of the tree's.
func begun(work uint32) (*tree.Tree, *model) {
	start := on(someHash(99), 0, work)
	id := head.ID(start)
	return tree.New(start), &model{
		start: id,
		heads: map[api.Hash]api.Head{id: start},
		ways:  map[api.Hash][]api.Hash{id: {id}},
	}
}

// add adds l to r and to m; none may fail.
func add(t *testing.T, r *tree.Tree, m *model, l ...api.Head) {
	t.Helper()
	for i, h := range l {
		if err := r.Add(h); err != nil {
			t.Fatalf("Add of number %d: %v", i, err)
		}
		id := head.ID(h)
		m.heads[id] = h
		m.ways[id] = slices.Concat([]api.Hash{id}, m.ways[h.Prev])
	}
}

// mark is what Bad should do.
func (m *model) mark(id api.Hash) bool {
	if _, is := m.heads[id]; !is || id == m.start {
		return false
	}
	m.bad = append(m.bad, id)
	return true
}

// is is what Is should be.
func (m *model) is(id api.Hash) bool {
	return slices.ContainsFunc(m.ways[id], func(x api.Hash) bool { return slices.Contains(m.bad, x) })
}

// work is that of a block's whole branch.
func (m *model) work(id api.Hash) (sum uint64) {
	for _, x := range m.ways[id] {
		sum += uint64(m.heads[x].Work)
	}
	return sum
}

// over is what Over should be.
func (m *model) over(a, b api.Hash) bool {
	if m.ways[a] == nil || m.ways[b] == nil {
		return false
	}
	if m.work(a) == m.work(b) {
		return bytes.Compare(a[:], b[:]) < 0
	}
	return m.work(a) > m.work(b)
}

// best is what Best should be.
func (m *model) best() api.Hash {
	top := m.start
	for id := range m.heads {
		if !m.is(id) && m.over(id, top) {
			top = id
		}
	}
	return top
}

// all is what All should be.
func (m *model) all() (l []api.Hash) {
	for id := range m.heads {
		if m.is(id) {
			l = append(l, id)
		}
	}
	slices.SortFunc(l, func(a, b api.Hash) int { return bytes.Compare(a[:], b[:]) })
	return l
}

// absent are ids that are not there: far from those that are, and one bit beside each of them.
func (m *model) absent() (l []api.Hash) {
	l = append(l, api.Hash{}, someHash(98), m.heads[m.start].Prev, m.heads[m.start].Root)
	for id := range m.heads {
		first, last := id, id
		first[0] ^= 0x80
		last[31] ^= 1
		l = append(l, first, last)
	}
	return l
}

// expectBest asks for Best, twice: it takes nothing away.
func expectBest(t *testing.T, what string, x *best.Marks, want api.Hash) {
	t.Helper()
	for range 2 {
		if got := x.Best(); got != want {
			t.Errorf("%s: Best is %x, not %x", what, got, want)
		}
	}
}

// expectMarks asks for All, and for Is of each of ids.
func expectMarks(t *testing.T, what string, x *best.Marks, ids []api.Hash, want ...api.Hash) {
	t.Helper()
	want = slices.Clone(want)
	slices.SortFunc(want, func(a, b api.Hash) int { return bytes.Compare(a[:], b[:]) })
	if got := x.All(); !slices.Equal(got, want) {
		t.Errorf("%s: All is %x, not %x", what, got, want)
	}
	for _, id := range ids {
		if got := x.Is(id); got != slices.Contains(want, id) {
			t.Errorf("%s: Is of %x is %v", what, id, got)
		}
	}
}

// expectOver asks that a is Over b, and b not Over a.
func expectOver(t *testing.T, what string, x *best.Marks, a, b api.Hash) {
	t.Helper()
	if !x.Over(a, b) || x.Over(b, a) {
		t.Errorf("%s: Over is %v, %v the other way", what, x.Over(a, b), x.Over(b, a))
	}
}

// expect asks that x shows what m does, of what is there and of what is not.
func expect(t *testing.T, what string, x *best.Marks, m *model) {
	t.Helper()
	expectBest(t, what, x, m.best())
	absent := m.absent()
	expectMarks(t, what, x, absent, m.all()...)
	for id := range m.heads {
		if got, want := x.Is(id), m.is(id); got != want {
			t.Errorf("%s: Is of %x is %v, not %v", what, id, got, want)
		}
		for other := range m.heads {
			if got, want := x.Over(id, other), m.over(id, other); got != want {
				t.Errorf("%s: Over of %x and %x is %v, not %v", what, id, other, got, want)
			}
		}
	}
	for _, id := range absent {
		if x.Over(id, m.start) || x.Over(m.start, id) || x.Over(id, absent[0]) || x.Over(id, id) {
			t.Errorf("%s: Over of %x, which is not there", what, id)
		}
	}
}

// bad asks for Bad of ids, and that it answers what the model does.
func bad(t *testing.T, what string, x *best.Marks, m *model, ids ...api.Hash) {
	t.Helper()
	for _, id := range ids {
		want := m.mark(id)
		if got := x.Bad(id); got != want {
			t.Errorf("%s: Bad of %x is %v, not %v", what, id, got, want)
		}
	}
}

// some are headers on the one that goes by s, each behind its parent: three branches on it, of which one parts in three, and one of these again.
//
//	s - a - b - c - d
//	    |   |
//	    |   e - f
//	    g - h
//	    |
//	    i
//	s - j - k
//	s - l
func some(s api.Hash) []api.Head {
	a := on(s, 1, 10)
	b := on(head.ID(a), 2, 20)
	c := on(head.ID(b), 3, 30)
	d := on(head.ID(c), 4, 40)
	e := on(head.ID(b), 5, 1)
	f := on(head.ID(e), 6, 65)
	g := on(head.ID(a), 7, 70)
	h := on(head.ID(g), 8, 12)
	i := on(head.ID(a), 9, 93)
	j := on(s, 10, 90)
	k := on(head.ID(j), 11, 3)
	l := on(s, 12, 94)
	return []api.Head{a, b, c, d, e, f, g, h, i, j, k, l}
}

// someTree is a tree of some, its model, and their ids by their letters, the start's, too.
func someTree(t *testing.T) (*tree.Tree, *model, map[string]api.Hash) {
	t.Helper()
	r, m := begun(5)
	heads := some(m.start)
	add(t, r, m, heads...)
	ids := map[string]api.Hash{"s": m.start}
	for n, h := range heads {
		ids["abcdefghijkl"[n:n+1]] = head.ID(h)
	}
	return r, m, ids
}

// named are the ids of these letters.
func named(ids map[string]api.Hash, letters string) (l []api.Hash) {
	for i := range letters {
		l = append(l, ids[letters[i:i+1]])
	}
	return l
}

// row are so many headers, one on the other, the first on the one that goes by prev; Nonces from n on tell them apart from others.
func row(prev api.Hash, n, many int, work uint32) (l []api.Head) {
	for i := range many {
		h := on(prev, uint32(n+i), work)
		l = append(l, h)
		prev = head.ID(h)
	}
	return l
}

// idsOf are the ids of l.
func idsOf(l []api.Head) (ids []api.Hash) {
	for _, h := range l {
		ids = append(ids, head.ID(h))
	}
	return ids
}
