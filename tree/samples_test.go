package tree_test

import (
	"bytes"
	"math"
	"slices"
	"testing"

	"sargasso/api"
	"sargasso/head"
	"sargasso/tree"
)

// someHash is a digest of unlike bytes, another one for each n.
func someHash(n int) (h api.Hash) {
	for i := range h {
		h[i] = byte(11*i + 17*n + 3)
	}
	return h
}

// on is a header on the one that goes by prev, another one for each n.
func on(prev api.Hash, n, work uint32) api.Head {
	return api.Head{Version: 1, Prev: prev, Root: someHash(int(n)), Time: 1000 + n, Work: work, Nonce: n}
}

// someStart is a header that a tree may begin with: its Prev is none of the tree's.
func someStart() api.Head {
	return on(someHash(99), 0, 5)
}

// model is what a tree should show: of each id that is there its header, and the ids on its way down to the start, its own first.
type model struct {
	start api.Hash
	heads map[api.Hash]api.Head
	ways  map[api.Hash][]api.Hash
}

// begun is a model of start alone.
func begun(start api.Head) *model {
	id := head.ID(start)
	return &model{
		start: id,
		heads: map[api.Hash]api.Head{id: start},
		ways:  map[api.Hash][]api.Hash{id: {id}},
	}
}

// add is what Add should do.
func (m *model) add(h api.Head) error {
	id := head.ID(h)
	if _, is := m.heads[id]; is {
		return api.ErrKnown
	}
	if _, is := m.heads[h.Prev]; !is {
		return api.ErrParent
	}
	if len(m.heads) == 4096 {
		return api.ErrFull
	}
	m.heads[id] = h
	m.ways[id] = slices.Concat([]api.Hash{id}, m.ways[h.Prev])
	return nil
}

// work is what Work should be.
func (m *model) work(id api.Hash) (sum uint64) {
	for _, x := range m.ways[id] {
		sum += uint64(m.heads[x].Work)
	}
	return sum
}

// under is what Under should be.
func (m *model) under(id api.Hash) (l []api.Hash) {
	for x, way := range m.ways {
		if slices.Contains(way, id) {
			l = append(l, x)
		}
	}
	slices.SortFunc(l, func(a, b api.Hash) int { return bytes.Compare(a[:], b[:]) })
	return l
}

// path is what Path should be, and Common ahead of it; false where one of both is not there.
func (m *model) path(a, b api.Hash) (common api.Hash, back, on []api.Hash, is bool) {
	for i, x := range m.ways[a] {
		j := slices.Index(m.ways[b], x)
		if j < 0 {
			continue
		}
		on = slices.Clone(m.ways[b][:j])
		slices.Reverse(on)
		return x, m.ways[a][:i], on, true
	}
	return api.Hash{}, nil, nil, false
}

// absent are ids that are not there: far from those that are, and one bit beside each of them.
func (m *model) absent() (l []api.Hash) {
	l = append(l, api.Hash{}, someHash(98), m.heads[m.start].Prev, m.heads[m.start].Root)
	for id := range m.heads {
		first, last := id, id
		first[0] ^= 0x80
		last[31] ^= 1
		l = append(l, first, last)
	}
	return l
}

// ids are those that are there, the start first.
func (m *model) ids() []api.Hash {
	l := []api.Hash{m.start}
	for id := range m.heads {
		if id != m.start {
			l = append(l, id)
		}
	}
	return l
}

// expect asks that r shows what m does, and nothing at ids that are not there.
func expect(t *testing.T, what string, r *tree.Tree, m *model) {
	t.Helper()
	if r.Len() != len(m.heads) || r.Start() != m.start {
		t.Errorf("%s: Len is %d, not %d, Start %x, not %x", what, r.Len(), len(m.heads), r.Start(), m.start)
	}
	ids, absent := m.ids(), m.absent()
	for _, id := range ids {
		expectOne(t, what, r, m, id)
		for _, other := range ids {
			expectPath(t, what, r, m, id, other)
		}
	}
	for _, id := range absent {
		expectNone(t, what, r, id)
	}
	for _, a := range ids[:min(3, len(ids))] {
		for _, b := range absent {
			expectPath(t, what, r, m, a, b)
			expectPath(t, what, r, m, b, a)
		}
	}
	for i, b := range absent {
		expectPath(t, what, r, m, b, b)
		expectPath(t, what, r, m, absent[0], absent[i])
	}
}

// expectOne asks what r tells of one that is there.
func expectOne(t *testing.T, what string, r *tree.Tree, m *model, id api.Hash) {
	t.Helper()
	way := m.ways[id]
	top := len(way) - 1
	h, is := r.Head(id)
	if h != m.heads[id] || !is {
		t.Errorf("%s: Head of %x is %v, %v, not %v", what, id, h, is, m.heads[id])
	}
	if n, is := r.Height(id); n != top || !is {
		t.Errorf("%s: Height of %x is %d, %v, not %d", what, id, n, is, top)
	}
	if w, is := r.Work(id); w != m.work(id) || !is {
		t.Errorf("%s: Work of %x is %d, %v, not %d", what, id, w, is, m.work(id))
	}
	for n := range way {
		if got, is := r.Ancestor(id, top-n); got != way[n] || !is {
			t.Errorf("%s: Ancestor of %x at %d is %x, %v, not %x", what, id, top-n, got, is, way[n])
		}
	}
	for _, n := range []int{math.MinInt, -1 << 32, -top - 1, -2, -1, top + 1, top + 2, 1 << 32, 1<<32 + top, math.MaxInt} {
		if got, is := r.Ancestor(id, n); got != (api.Hash{}) || is {
			t.Errorf("%s: Ancestor of %x at %d is %x, %v", what, id, n, got, is)
		}
	}
	if got, want := r.Under(id), m.under(id); !slices.Equal(got, want) {
		t.Errorf("%s: Under of %x is %x, not %x", what, id, got, want)
	}
}

// expectNone asks that r tells nothing of one that is not there.
func expectNone(t *testing.T, what string, r *tree.Tree, id api.Hash) {
	t.Helper()
	if h, is := r.Head(id); h != (api.Head{}) || is {
		t.Errorf("%s: Head of %x is %v, %v", what, id, h, is)
	}
	if n, is := r.Height(id); n != 0 || is {
		t.Errorf("%s: Height of %x is %d, %v", what, id, n, is)
	}
	if w, is := r.Work(id); w != 0 || is {
		t.Errorf("%s: Work of %x is %d, %v", what, id, w, is)
	}
	for _, n := range []int{math.MinInt, -1, 0, 1, math.MaxInt} {
		if got, is := r.Ancestor(id, n); got != (api.Hash{}) || is {
			t.Errorf("%s: Ancestor of %x at %d is %x, %v", what, id, n, got, is)
		}
	}
	if got := r.Under(id); len(got) != 0 {
		t.Errorf("%s: Under of %x is %x", what, id, got)
	}
}

// expectPath asks for Common and Path from a to b.
func expectPath(t *testing.T, what string, r *tree.Tree, m *model, a, b api.Hash) {
	t.Helper()
	common, back, on, has := m.path(a, b)
	if got, is := r.Common(a, b); got != common || is != has {
		t.Errorf("%s: Common of %x and %x is %x, %v, not %x, %v", what, a, b, got, is, common, has)
	}
	gotBack, gotOn, is := r.Path(a, b)
	if !slices.Equal(gotBack, back) || !slices.Equal(gotOn, on) || is != has {
		t.Errorf("%s: Path from %x to %x is %x, %x, %v, not %x, %x, %v", what, a, b, gotBack, gotOn, is, back, on, has)
	}
}

// grown is a tree of these, from start on, and its model.
func grown(t *testing.T, start api.Head, l ...api.Head) (*tree.Tree, *model) {
	t.Helper()
	r, m := tree.New(start), begun(start)
	add(t, r, m, l...)
	return r, m
}

// add adds l to r and to m; none may fail.
func add(t *testing.T, r *tree.Tree, m *model, l ...api.Head) {
	t.Helper()
	for i, h := range l {
		if err := r.Add(h); err != nil {
			t.Fatalf("Add of number %d: %v", i, err)
		}
		if err := m.add(h); err != nil {
			t.Fatalf("the model's of number %d: %v", i, err)
		}
	}
}

// refused asks that Add of h is this error, and that r shows behind it what it showed.
func refused(t *testing.T, what string, r *tree.Tree, m *model, h api.Head, err error) {
	t.Helper()
	for range 2 {
		if got := r.Add(h); got != err {
			t.Errorf("%s: Add is %v, not %v", what, got, err)
		}
	}
	expect(t, what, r, m)
}

// some are headers on someStart, each behind its parent: two branches on the start, of which one parts in three, and one of these again.
//
//	start - a - b - c - d
//	        |   |
//	        |   e - f
//	        g - h
//	        |
//	        i
//	start - j - k
func some() []api.Head {
	s := head.ID(someStart())
	a := on(s, 1, 10)
	b := on(head.ID(a), 2, 20)
	c := on(head.ID(b), 3, 30)
	d := on(head.ID(c), 4, 1<<24)
	e := on(head.ID(b), 5, 1)
	f := on(head.ID(e), 6, 60)
	g := on(head.ID(a), 7, 70)
	h := on(head.ID(g), 8, 80)
	i := on(head.ID(a), 9, 90)
	j := on(s, 10, 100)
	k := on(head.ID(j), 11, 110)
	return []api.Head{a, b, c, d, e, f, g, h, i, j, k}
}

// named are the ids of someStart and some, by their letters.
func named() map[string]api.Hash {
	ids := map[string]api.Hash{"s": head.ID(someStart())}
	for n, h := range some() {
		ids["abcdefghijk"[n:n+1]] = head.ID(h)
	}
	return ids
}

// row are so many headers, one on the other, the first on the one that goes by prev; Nonces from n on tell them apart from others.
func row(prev api.Hash, n, many int, work uint32) (l []api.Head) {
	for i := range many {
		h := on(prev, uint32(n+i), work)
		l = append(l, h)
		prev = head.ID(h)
	}
	return l
}

// idsOf are the ids of l.
func idsOf(l []api.Head) (ids []api.Hash) {
	for _, h := range l {
		ids = append(ids, head.ID(h))
	}
	return ids
}
