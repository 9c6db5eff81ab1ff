package graph_test

import (
	"bytes"
	"math"
	"slices"
	"testing"

	"sargasso/api"
	"sargasso/graph"
	"sargasso/spend"
	"sargasso/tx"
)

// someHash is a digest of unlike bytes, another one for each n.
func someHash(n int) (h api.Hash) {
	for i := range h {
		h[i] = byte(11*i + 17*n + 3)
	}
	return h
}

// at is a place number n that is no Out of a transaction here.
func at(n int) api.Point {
	return api.Point{Tx: someHash(n), N: uint32(n)}
}

// pay is a transaction that spends these places, for so many Outs.
func pay(outs int, from ...api.Point) api.Tx {
	t := api.Tx{Version: 1}
	for n, p := range from {
		t.Ins = append(t.Ins, api.In{From: p, Key: []byte{byte(n), 7}, Seq: uint32(n)})
	}
	for n := range outs {
		t.Outs = append(t.Outs, api.Out{Value: uint64(100 + n), Lock: someHash(200 + n)})
	}
	return t
}

// out is the place of an Out of t, or one behind the last of them.
func out(t api.Tx, n uint32) api.Point {
	return api.Point{Tx: tx.ID(t), N: n}
}

// paid is a transaction and its fee.
type paid struct {
	tx  api.Tx
	fee uint64
}

// some are transactions with unlike fees, each behind those that it hangs on, and one, x, that spends what is no Out.
//
//	a - c - e - f
//	|   |       |
//	|   b       d
//	|           |
//	a --------- d
//	g: two Outs of a, and one of b
//	h: alone
//	x: behind the last Out of h
func some() []paid {
	a := pay(5, at(1))
	b := pay(2, at(2), at(3))
	c := pay(2, out(a, 0), out(b, 0))
	d := pay(1, out(a, 1))
	e := pay(3, at(4), out(c, 1))
	f := pay(0, out(e, 2), out(d, 0))
	g := pay(1, out(a, 4), out(b, 1), out(a, 2))
	h := pay(3, at(5))
	x := pay(2, out(h, 3), out(h, math.MaxUint32))
	return []paid{{a, 1}, {b, 20}, {c, 300}, {d, 4000}, {e, 50000}, {f, 1 << 62}, {g, 3 << 62}, {h, 0}, {x, math.MaxUint64}}
}

// named are the transactions of some, by their letters.
func named() map[string]api.Tx {
	txs := map[string]api.Tx{}
	for i, p := range some() {
		txs["abcdefghx"[i:i+1]] = p.tx
	}
	return txs
}

// those are the transactions of some whose letters these are.
func those(letters string) (l []api.Tx) {
	for _, c := range letters {
		l = append(l, named()[string(c)])
	}
	return l
}

// grown is a graph of l, and its model.
func grown(t *testing.T, l ...paid) (*graph.Graph, *model) {
	t.Helper()
	g, m := &graph.Graph{}, &model{}
	add(t, g, m, l...)
	return g, m
}

// add adds l to g and to m; none may fail.
func add(t *testing.T, g *graph.Graph, m *model, l ...paid) {
	t.Helper()
	for i, p := range l {
		if err := g.Add(p.tx, p.fee); err != nil {
			t.Fatalf("Add of number %d: %v", i, err)
		}
		if err := m.add(p.tx, p.fee); err != nil {
			t.Fatalf("the model's of number %d: %v", i, err)
		}
	}
}

// cut cuts l out of g and of m; none may fail.
func cut(t *testing.T, g *graph.Graph, m *model, l ...api.Tx) {
	t.Helper()
	for i, x := range l {
		if err := g.Cut(tx.ID(x)); err != nil {
			t.Fatalf("Cut of number %d: %v", i, err)
		}
		if err := m.cut(tx.ID(x)); err != nil {
			t.Fatalf("the model's of number %d: %v", i, err)
		}
	}
}

// remove removes x from g and from m, which must tell the same.
func remove(t *testing.T, g *graph.Graph, m *model, x api.Tx) []api.Tx {
	t.Helper()
	got, err := g.Remove(tx.ID(x))
	want, wrong := m.remove(tx.ID(x))
	if err != wrong || !slices.EqualFunc(got, want, tx.Same) {
		t.Errorf("Remove is %d of them, %v, not %d, %v", len(got), err, len(want), wrong)
	}
	return got
}

// refused asks that Add of x is this error, and that g shows behind it what it showed.
func refused(t *testing.T, what string, g *graph.Graph, m *model, x api.Tx, err error) {
	t.Helper()
	for _, fee := range []uint64{0, 7} {
		if got := g.Add(x, fee); got != err {
			t.Errorf("%s: Add is %v, not %v", what, got, err)
		}
	}
	expect(t, what, g, m, x)
}

// sorted are ids, each once, held against each other byte by byte.
func sorted(ids []api.Hash) []api.Hash {
	ids = slices.Clone(ids)
	slices.SortFunc(ids, func(a, b api.Hash) int { return bytes.Compare(a[:], b[:]) })
	return slices.Compact(ids)
}

// idsOf are the ids of l, in the order in which they are told.
func idsOf(l []api.Tx) (ids []api.Hash) {
	for _, x := range l {
		ids = append(ids, tx.ID(x))
	}
	return sorted(ids)
}

// places are those that x names, those of its Outs, and some beside these.
func places(x api.Tx) (l []api.Point) {
	for _, in := range x.Ins {
		beside := in.From
		beside.Tx[31] ^= 1
		l = append(l, in.From, beside, api.Point{Tx: in.From.Tx, N: in.From.N + 1})
	}
	id := tx.ID(x)
	for n := range len(x.Outs) + 2 {
		l = append(l, api.Point{Tx: id, N: uint32(n)})
	}
	return append(l, api.Point{Tx: id, N: math.MaxUint32})
}

// expect asks that g shows what m does, and nothing of what is not there: of these others, too.
func expect(t *testing.T, what string, g *graph.Graph, m *model, others ...api.Tx) {
	t.Helper()
	expectLists(t, what, g, m)
	at := []api.Point{{}, spend.Null(), {Tx: someHash(99)}}
	ids := []api.Hash{{}, someHash(99), spend.Null().Tx}
	for _, p := range m.list {
		beside := p.id
		beside[0] ^= 1
		at, ids = append(at, places(p.tx)...), append(ids, p.id, beside)
	}
	for _, x := range others {
		at, ids = append(at, places(x)...), append(ids, tx.ID(x))
	}
	for _, p := range at {
		id, is := g.Spender(p)
		if want, has := m.spender(p); id != want || is != has {
			t.Errorf("%s: Spender of %v is %x, %v, not %x, %v", what, p, id, is, want, has)
		}
	}
	for _, id := range ids {
		expectOne(t, what, g, m, id)
	}
}

// expectLists asks what g tells of all.
func expectLists(t *testing.T, what string, g *graph.Graph, m *model) {
	t.Helper()
	if got, want := g.Order(), m.txs(); !slices.EqualFunc(got, want, tx.Same) {
		t.Errorf("%s: Order is %d: %x, not %d: %x", what, len(got), got, len(want), want)
	}
	if got, want := g.IDs(), m.ids(); !slices.Equal(got, want) {
		t.Errorf("%s: IDs is %x, not %x", what, got, want)
	}
	if got, want := g.All(), m.sum(m.ids()); got != want {
		t.Errorf("%s: All is %v, not %v", what, got, want)
	}
}

// expectOne asks what g tells of the one that goes by id, there or not.
func expectOne(t *testing.T, what string, g *graph.Graph, m *model, id api.Hash) {
	t.Helper()
	x, fee, is := g.Get(id)
	if want, of, has := m.get(id); !tx.Same(x, want) || fee != of || is != has {
		t.Errorf("%s: Get of %x is %v, %d, %v, not %v, %d, %v", what, id, x, fee, is, want, of, has)
	}
	up, down := m.up(id), m.down(id)
	if got := g.Up(id); !slices.Equal(got, up) {
		t.Errorf("%s: Up of %x is %x, not %x", what, id, got, up)
	}
	if got := g.Down(id); !slices.Equal(got, down) {
		t.Errorf("%s: Down of %x is %x, not %x", what, id, got, down)
	}
	if got, want := g.UpSum(id), m.sum(up); got != want {
		t.Errorf("%s: UpSum of %x is %v, not %v", what, id, got, want)
	}
	if got, want := g.DownSum(id), m.sum(down); got != want {
		t.Errorf("%s: DownSum of %x is %v, not %v", what, id, got, want)
	}
}
