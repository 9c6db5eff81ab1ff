package graph_test

import (
	"slices"
	"testing"

	"sargasso/api"
	"sargasso/graph"
	"sargasso/spend"
	"sargasso/tx"
)

// P18.1: Get tells each that is there, as it was added, and its fee; false, and nothing beside, for what is not.
func TestGet(t *testing.T) {
	g, _ := grown(t, some()...)
	for i, p := range some() {
		x, fee, is := g.Get(tx.ID(p.tx))
		if !tx.Same(x, p.tx) || fee != p.fee || !is {
			t.Errorf("%d: %v, %d, %v", i, x, fee, is)
		}
		beside := tx.ID(p.tx)
		beside[i] ^= 1
		if x, fee, is := g.Get(beside); !tx.Same(x, api.Tx{}) || x.Ins != nil || x.Outs != nil || fee != 0 || is {
			t.Errorf("%d: beside: %v, %d, %v", i, x, fee, is)
		}
	}
	remove(t, g, modelOf(some()...), named()["c"])
	for _, x := range those("cef") {
		if x, fee, is := g.Get(tx.ID(x)); x.Ins != nil || fee != 0 || is {
			t.Errorf("removed: %v, %d, %v", x, fee, is)
		}
	}
}

// P18.1: Spender tells which one spends a place, by whichever In, be it an Out of one that is there or not.
func TestSpender(t *testing.T) {
	g, _ := grown(t, some()...)
	for letter, x := range named() {
		for i, in := range x.Ins {
			if id, is := g.Spender(in.From); id != tx.ID(x) || !is {
				t.Errorf("In %d of %s: %x, %v", i, letter, id, is)
			}
		}
	}
	a := named()["a"]
	for _, p := range []api.Point{{}, spend.Null(), at(6), out(a, 3), out(a, 5), {Tx: at(1).Tx}, {N: 1}, out(named()["f"], 0)} {
		if id, is := g.Spender(p); id != (api.Hash{}) || is {
			t.Errorf("%v: %x, %v", p, id, is)
		}
	}
	if err := g.Cut(tx.ID(a)); err != nil {
		t.Fatal(err)
	}
	if id, is := g.Spender(out(a, 0)); id != tx.ID(named()["c"]) || !is {
		t.Errorf("of one that is cut: %x, %v", id, is)
	}
	if id, is := g.Spender(at(1)); id != (api.Hash{}) || is {
		t.Errorf("what it had spent: %x, %v", id, is)
	}
}

// P18.1: Order is as they were added, IDs by Less, however they come.
func TestOrderAndIDs(t *testing.T) {
	var l []api.Tx
	for i := range 200 {
		l = append(l, pay(1, at(i)))
	}
	g := &graph.Graph{}
	for _, x := range l {
		if err := g.Add(x, 0); err != nil {
			t.Fatal(err)
		}
	}
	if !slices.EqualFunc(g.Order(), l, tx.Same) || !slices.Equal(g.IDs(), idsOf(l)) {
		t.Error("another order")
	}
	// every third one goes, and comes again from the last one on
	var left, again []api.Tx
	for i, x := range l {
		if i%3 > 0 {
			left = append(left, x)
			continue
		}
		again = append(again, x)
		if err := g.Cut(tx.ID(x)); err != nil {
			t.Fatal(err)
		}
	}
	if !slices.EqualFunc(g.Order(), left, tx.Same) || !slices.Equal(g.IDs(), idsOf(left)) {
		t.Error("another order of those that are left")
	}
	slices.Reverse(again)
	for _, x := range again {
		if err := g.Add(x, 0); err != nil {
			t.Fatal(err)
		}
	}
	all := slices.Concat(left, again)
	if !slices.EqualFunc(g.Order(), all, tx.Same) || !slices.Equal(g.IDs(), idsOf(all)) {
		t.Error("another order of those that came again")
	}
}

// P18.1: a clone shows what the graph does, and each goes its own way from then on.
func TestClone(t *testing.T) {
	l := some()
	g, m := grown(t, l[:5]...)
	k, km := g.Clone(), m.clone()
	expect(t, "a clone", k, km)
	remove(t, g, m, l[2].tx)
	add(t, g, m, paid{pay(1, at(6), out(l[1].tx, 2)), 9})
	expect(t, "the graph", g, m)
	expect(t, "the clone", k, km)
	add(t, k, km, l[5:]...)
	cut(t, k, km, l[0].tx)
	expect(t, "the clone, grown", k, km)
	expect(t, "the graph, behind it", g, m, those("cefg")...)
	add(t, g, m, l[2], l[4])
	expect(t, "the graph, grown", g, m)
}

// P18.1: a clone goes on behind those that were added, also where some of them are gone.
func TestCloneKeepsTheOrder(t *testing.T) {
	g, m := grown(t, some()...)
	cut(t, g, m, those("hx")...)
	k, km := g.Clone(), m.clone()
	add(t, k, km, paid{named()["x"], 1}, paid{named()["h"], 2})
	if !slices.EqualFunc(k.Order(), those("abcdefgxh"), tx.Same) {
		t.Error("Order is another one")
	}
	expect(t, "the clone", k, km)
	expect(t, "the graph", g, m, those("hx")...)
}

// P18.1, P0.5: graphs stand for themselves.
func TestGraphsApart(t *testing.T) {
	a, am := grown(t, some()...)
	b, bm := grown(t)
	add(t, b, bm, paid{pay(1, at(1)), 5})
	expect(t, "the one", a, am)
	expect(t, "the other one", b, bm, those("abc")...)
}

// P0.4: each list that is handed out is new memory, spare room too: what is written into it shows nowhere else.
func TestAnswersAreNew(t *testing.T) {
	g, m := grown(t, some()...)
	k, km := g.Clone(), m.clone()
	id := tx.ID(named()["e"])
	one, _, _ := g.Get(id)
	two, _, _ := g.Get(id)
	first, second := g.Order(), g.Order()
	spoil(one)
	for _, x := range first {
		spoil(x)
	}
	clear(first)
	_ = append(first[:2], api.Tx{Time: 9})
	if !tx.Same(two, named()["e"]) || !slices.EqualFunc(second, those("abcdefghx"), tx.Same) {
		t.Error("another answer shows it")
	}
	for _, ask := range []func() []api.Hash{
		g.IDs,
		func() []api.Hash { return g.Up(id) },
		func() []api.Hash { return g.Down(id) },
	} {
		first, second := ask(), ask()
		was := slices.Clone(second)
		clear(first)
		_ = append(first, api.Hash{1}, api.Hash{2})
		_ = append(first[:1], api.Hash{3})
		if !slices.Equal(second, was) || !slices.Equal(ask(), was) {
			t.Error("another list shows it")
		}
	}
	expect(t, "the graph", g, m)
	expect(t, "the clone", k, km)
}
