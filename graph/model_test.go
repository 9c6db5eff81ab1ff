package graph_test

import (
	"slices"
	"testing"

	"sargasso/api"
	"sargasso/graph"
	"sargasso/tx"
)

// held is what was added, and the id that it goes by.
type held struct {
	paid
	id api.Hash
}

// model is a list of what is there, as it was added: each question goes through all of it.
type model struct{ list []held }

// modelOf is a model of l, whatever it is.
func modelOf(l ...paid) *model {
	m := &model{}
	for _, p := range l {
		m.list = append(m.list, held{p, tx.ID(p.tx)})
	}
	return m
}

// txs are the transactions.
func (m *model) txs() (l []api.Tx) {
	for _, p := range m.list {
		l = append(l, p.tx)
	}
	return l
}

// ids are those of all, in the order in which they are told.
func (m *model) ids() (ids []api.Hash) {
	for _, p := range m.list {
		ids = append(ids, p.id)
	}
	return sorted(ids)
}

// place is where in the list the one that goes by id is, below 0 where it is not.
func (m *model) place(id api.Hash) int {
	return slices.IndexFunc(m.list, func(p held) bool { return p.id == id })
}

// get is what Get should be.
func (m *model) get(id api.Hash) (api.Tx, uint64, bool) {
	i := m.place(id)
	if i < 0 {
		return api.Tx{}, 0, false
	}
	return m.list[i].tx, m.list[i].fee, true
}

// spender is what Spender should be.
func (m *model) spender(p api.Point) (api.Hash, bool) {
	for _, x := range m.list {
		if slices.ContainsFunc(x.tx.Ins, func(in api.In) bool { return in.From == p }) {
			return x.id, true
		}
	}
	return api.Hash{}, false
}

// hangs tells whether a hangs on b.
func hangs(a, b held) bool {
	return slices.ContainsFunc(a.tx.Ins, func(in api.In) bool {
		return in.From.Tx == b.id && int64(in.From.N) < int64(len(b.tx.Outs))
	})
}

// reach are the one that goes by id, and all that are met by steps of next, in the order in which they are told.
func (m *model) reach(id api.Hash, next func(from, to held) bool) []api.Hash {
	i := m.place(id)
	if i < 0 {
		return nil
	}
	l := []held{m.list[i]}
	for i := 0; i < len(l); i++ {
		for _, x := range m.list {
			if next(l[i], x) && !slices.ContainsFunc(l, func(y held) bool { return x.id == y.id }) {
				l = append(l, x)
			}
		}
	}
	return (&model{l}).ids()
}

// up is what Up should be.
func (m *model) up(id api.Hash) []api.Hash {
	return m.reach(id, hangs)
}

// down is what Down should be.
func (m *model) down(id api.Hash) []api.Hash {
	return m.reach(id, func(from, to held) bool { return hangs(to, from) })
}

// sum is what these come to.
func (m *model) sum(ids []api.Hash) (s graph.Sum) {
	for _, id := range ids {
		x, fee, _ := m.get(id)
		s.Count++
		s.Bytes += len(tx.Bytes(x))
		s.Fee += fee
	}
	return s
}

// add is what Add should do.
func (m *model) add(x api.Tx, fee uint64) error {
	one := held{paid{x, fee}, tx.ID(x)}
	if m.place(one.id) >= 0 {
		return api.ErrKnown
	}
	for _, in := range x.Ins {
		if _, is := m.spender(in.From); is {
			return api.ErrClash
		}
	}
	if slices.ContainsFunc(m.list, func(y held) bool { return hangs(y, one) }) {
		return api.ErrShape
	}
	m.list = append(m.list, one)
	return nil
}

// remove is what Remove should do.
func (m *model) remove(id api.Hash) (gone []api.Tx, err error) {
	if m.place(id) < 0 {
		return nil, api.ErrNone
	}
	down := m.down(id)
	var left []held
	for _, p := range m.list {
		if slices.Contains(down, p.id) {
			gone = append(gone, p.tx)
			continue
		}
		left = append(left, p)
	}
	m.list = left
	return gone, nil
}

// cut is what Cut should do.
func (m *model) cut(id api.Hash) error {
	i := m.place(id)
	if i < 0 {
		return api.ErrNone
	}
	if len(m.up(id)) > 1 {
		return api.ErrShape
	}
	m.list = slices.Delete(slices.Clone(m.list), i, i+1)
	return nil
}

// clone is what Clone should be.
func (m *model) clone() *model {
	return &model{slices.Clone(m.list)}
}

// turns are numbers that look like chance, always the same ones.
type turns struct{ next uint32 }

// below is a number below n.
func (r *turns) below(n int) int {
	r.next = r.next*1664525 + 1013904223
	return int(r.next>>8) % n
}

// someTx is a transaction that spends places of these, for the most part of late ones, or places beside them.
func someTx(r *turns, made []api.Tx) api.Tx {
	x := pay(1 + r.below(4) - r.below(2))
	x.Time = uint32(r.below(1000))
	for range r.below(4) {
		if len(made) == 0 || r.below(5) == 0 {
			x.Ins = append(x.Ins, api.In{From: at(r.below(30))})
			continue
		}
		late := made[len(made)-1-r.below(1+r.below(len(made)))]
		x.Ins = append(x.Ins, api.In{From: out(late, uint32(r.below(4)))})
	}
	return x
}

// count is how often each call was met by each answer; removed are those that took others along.
type count struct {
	added, known, clash, shape     int
	removed, none, cut, held, away int
}

// step is one call of g that changes it, and of its model, which must tell the same.
func step(t *testing.T, r *turns, g *graph.Graph, m *model, made []api.Tx, n *count) []api.Tx {
	t.Helper()
	x := someTx(r, made)
	if len(made) > 0 && r.below(2) == 0 {
		x = made[r.below(len(made))]
	}
	switch r.below(9) {
	case 0:
		switch gone := remove(t, g, m, x); len(gone) {
		case 0:
			n.none++
		case 1:
		default:
			n.removed++
		}
	case 1, 2:
		got, want := g.Cut(tx.ID(x)), m.cut(tx.ID(x))
		if got != want {
			t.Errorf("Cut is %v, not %v", got, want)
		}
		countCut(n, want)
	default:
		fee := uint64(r.below(1<<20)) << r.below(50)
		got, want := g.Add(x, fee), m.add(x, fee)
		if got != want {
			t.Errorf("Add is %v, not %v", got, want)
		}
		countAdd(n, want)
	}
	return append(made, x)
}

// countCut counts an answer of Cut.
func countCut(n *count, err error) {
	switch err {
	case nil:
		n.cut++
	case api.ErrNone:
		n.away++
	default:
		n.held++
	}
}

// countAdd counts an answer of Add.
func countAdd(n *count, err error) {
	switch err {
	case nil:
		n.added++
	case api.ErrKnown:
		n.known++
	case api.ErrClash:
		n.clash++
	default:
		n.shape++
	}
}

// P18.1: many turns, held against the model; now and then a clone is made, and one of both goes on, while the other one is to stay as it was.
func TestAgainstAModel(t *testing.T) {
	n := &count{}
	for round := range 200 {
		r := &turns{uint32(round)}
		g, m := grown(t)
		was, then := g.Clone(), m.clone()
		var made []api.Tx
		for i := range 80 {
			if r.below(20) == 0 {
				expect(t, "one that was left", was, then)
				was, then = g.Clone(), m.clone()
				if r.below(2) == 0 {
					g, m, was, then = was, then, g, m
				}
			}
			made = step(t, r, g, m, made, n)
			expectLists(t, "a turn", g, m)
			if i%8 == 0 {
				expect(t, "a turn", g, m)
			}
			if t.Failed() {
				t.Fatalf("round %d, step %d", round, i)
			}
		}
		expect(t, "at the end", g, m, made...)
	}
	if min(n.added, n.known, n.clash, n.shape, n.removed, n.none, n.cut, n.held, n.away) < 80 {
		t.Errorf("too few to tell anything: %+v", *n)
	}
}
