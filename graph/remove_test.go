package graph_test

import (
	"slices"
	"testing"

	"sargasso/api"
	"sargasso/graph"
	"sargasso/tx"
)

// P18.1: Remove takes away one, and all that hang on it, and tells these as they were added; the others stay as they were.
func TestRemove(t *testing.T) {
	for letter, gone := range map[string]string{
		"a": "acdefg", "b": "bcefg", "c": "cef", "d": "df", "e": "ef", "f": "f", "g": "g", "h": "h", "x": "x",
	} {
		g, m := grown(t, some()...)
		got := remove(t, g, m, named()[letter])
		if !slices.EqualFunc(got, those(gone), tx.Same) {
			t.Errorf("%s: Remove is %d of them, not %s", letter, len(got), gone)
		}
		expect(t, letter, g, m, those(gone)...)
		for _, x := range those(gone) {
			if l, err := g.Remove(tx.ID(x)); len(l) != 0 || err != api.ErrNone {
				t.Errorf("%s: again: %d of them, %v", letter, len(l), err)
			}
		}
		for _, p := range some() {
			if slices.ContainsFunc(got, func(x api.Tx) bool { return tx.Same(x, p.tx) }) {
				add(t, g, m, p)
			}
		}
		expect(t, letter+" again", g, m)
	}
}

// P18.1: what Remove tells is in the order in which they were added last, not in that of ids, nor in that of how far they hang.
func TestRemoveInOrder(t *testing.T) {
	a := pay(20, at(1))
	far := pay(1, out(a, 19))
	for range 8 {
		far = pay(1, out(far, 0))
	}
	g, m := grown(t, paid{a, 1})
	var l []paid
	last := pay(1, out(a, 19))
	for i := range uint32(8) {
		l = append(l, paid{last, uint64(i)}, paid{pay(1, out(a, i)), uint64(i)})
		last = pay(1, out(last, 0))
	}
	add(t, g, m, l...)
	one := l[3].tx
	remove(t, g, m, one)
	add(t, g, m, paid{one, 5})
	if got := g.Order(); !tx.Same(got[len(got)-1], one) || !tx.Same(got[0], a) {
		t.Error("it is not the last one of Order")
	}
	got := remove(t, g, m, a)
	if len(got) != 17 || !tx.Same(got[16], one) || !tx.Same(got[0], a) {
		t.Errorf("Remove is %d of them", len(got))
	}
	expect(t, "nothing is left", g, &model{}, got...)
}

// P18.1: what is not there is ErrNone, and nothing is changed.
func TestRemoveNone(t *testing.T) {
	g, m := grown(t, some()...)
	beside := tx.ID(named()["a"])
	beside[31] ^= 1
	for _, id := range []api.Hash{{}, at(1).Tx, beside, tx.ID(api.Tx{}), tx.ID(pay(1, at(6)))} {
		if l, err := g.Remove(id); len(l) != 0 || err != api.ErrNone {
			t.Errorf("Remove of %x is %v, %v", id, l, err)
		}
		if err := g.Cut(id); err != api.ErrNone {
			t.Errorf("Cut of %x is %v", id, err)
		}
	}
	expect(t, "nothing was there", g, m)
}

// P18.1: what one that is removed had spent can be spent by another one.
func TestAddBehindRemove(t *testing.T) {
	for letter := range named() {
		g, m := grown(t, some()...)
		x := named()[letter]
		refused(t, "spent", g, m, pay(6, x.Ins[0].From), api.ErrClash)
		remove(t, g, m, x)
		for i, in := range x.Ins {
			add(t, g, m, paid{pay(6, in.From), uint64(i)})
		}
		expect(t, letter, g, m, x)
		refused(t, letter, g, m, x, api.ErrClash)
	}
}

// P18.1: Cut takes one away that hangs on none, and it alone; what hung on it then hangs on nothing there.
func TestCut(t *testing.T) {
	for letter, then := range map[string]map[string]string{
		"a": {"c": "bc", "d": "d", "e": "bce", "f": "bcdef", "g": "bg"},
		"b": {"c": "ac", "d": "ad", "e": "ace", "f": "acdef", "g": "ag"},
		"h": {"x": "x", "a": "a"},
		"x": {"h": "h"},
	} {
		g, m := grown(t, some()...)
		cut(t, g, m, named()[letter])
		expect(t, letter, g, m, named()[letter])
		for one, up := range then {
			if got := g.Up(tx.ID(named()[one])); !slices.Equal(got, idsOf(those(up))) {
				t.Errorf("%s is cut: Up of %s is %x", letter, one, got)
			}
		}
		if err := g.Cut(tx.ID(named()[letter])); err != api.ErrNone {
			t.Errorf("%s: again: %v", letter, err)
		}
	}
}

// P18.1: one that hangs on one that is there, by whichever In, is ErrShape, and nothing is changed.
func TestCutShape(t *testing.T) {
	g, m := grown(t, some()...)
	for _, letter := range []string{"c", "d", "e", "f", "g"} {
		for range 2 {
			if err := g.Cut(tx.ID(named()[letter])); err != api.ErrShape {
				t.Errorf("%s: %v", letter, err)
			}
		}
	}
	expect(t, "all were refused", g, m)
	for i := range 3 {
		up := pay(2, at(1))
		from := slices.Insert([]api.Point{at(2), at(3)}, i, out(up, 1))
		x := pay(1, from...)
		g, m := grown(t, paid{up, 1}, paid{x, 2})
		if err := g.Cut(tx.ID(x)); err != api.ErrShape {
			t.Errorf("In %d: %v", i, err)
		}
		expect(t, "refused", g, m)
		cut(t, g, m, up, x)
		expect(t, "the one ahead first", g, m, up, x)
	}
}

// P18.1: cut one by one, each once it hangs on none that is there.
func TestCutAll(t *testing.T) {
	g, m := grown(t, some()...)
	for _, letter := range []string{"b", "x", "a", "d", "c", "h", "g", "e", "f"} {
		cut(t, g, m, named()[letter])
		expect(t, letter, g, m, named()[letter])
	}
	if g.All() != (graph.Sum{}) {
		t.Errorf("All is %v", g.All())
	}
}

// P18.1: one that was cut comes too late while others hang on it; without them it is behind all others.
func TestAddBehindCut(t *testing.T) {
	g, m := grown(t, some()...)
	a := named()["a"]
	cut(t, g, m, a)
	refused(t, "three hang on it", g, m, a, api.ErrShape)
	cut(t, g, m, named()["d"])
	remove(t, g, m, named()["g"])
	refused(t, "one hangs on it", g, m, a, api.ErrShape)
	remove(t, g, m, named()["c"])
	add(t, g, m, paid{a, 77})
	expect(t, "none hangs on it", g, m)
	if !slices.EqualFunc(g.Order(), those("bhxa"), tx.Same) {
		t.Error("Order is another one")
	}
	clash := pay(1, at(2))
	cut(t, g, m, named()["b"])
	add(t, g, m, paid{clash, 1})
	refused(t, "its place is spent", g, m, named()["b"], api.ErrClash)
}

// P0.4: what Remove hands out is of nobody else's memory: not of a clone's, nor of another answer's.
func TestRemoveIsNew(t *testing.T) {
	g, m := grown(t, some()...)
	k, km := g.Clone(), m.clone()
	got, err := g.Remove(tx.ID(named()["a"]))
	if err != nil {
		t.Fatal(err)
	}
	for _, x := range got {
		spoil(x)
	}
	clear(got)
	_ = append(got[:1], api.Tx{Time: 3})
	m.remove(tx.ID(named()["a"]))
	expect(t, "the graph", g, m)
	expect(t, "the clone", k, km)
	again := remove(t, k, km, named()["a"])
	if !slices.EqualFunc(again, those("acdefg"), tx.Same) {
		t.Error("the clone tells another one")
	}
}

// spoil writes over all that x leads to, and behind it.
func spoil(x api.Tx) {
	for i := range x.Ins {
		clear(x.Ins[i].Key)
		_ = append(x.Ins[i].Key, 44, 44, 44)
	}
	clear(x.Ins)
	clear(x.Outs)
	_ = append(x.Ins, api.In{Seq: 44})
	_ = append(x.Outs, api.Out{Value: 44})
}
