package graph_test

import (
	"math"
	"slices"
	"testing"

	"sargasso/api"
	"sargasso/graph"
	"sargasso/spend"
	"sargasso/tx"
)

// P18.1, P0.1: the zero value is a graph of nothing, of which nothing can be taken away.
func TestZero(t *testing.T) {
	g, m := grown(t)
	for what, g := range map[string]*graph.Graph{"zero": {}, "new": new(graph.Graph), "a clone": g.Clone()} {
		expect(t, what, g, m, those("abx")...)
		for _, id := range []api.Hash{{}, someHash(1), tx.ID(api.Tx{})} {
			if l, err := g.Remove(id); len(l) != 0 || err != api.ErrNone {
				t.Errorf("%s: Remove is %v, %v", what, l, err)
			}
			if err := g.Cut(id); err != api.ErrNone {
				t.Errorf("%s: Cut is %v", what, err)
			}
		}
		expect(t, what, g, m)
		if err := g.Add(api.Tx{}, 3); err != nil {
			t.Errorf("%s: Add is %v", what, err)
		}
		expect(t, what, g, modelOf(paid{api.Tx{}, 3}))
	}
	expect(t, "behind others", g, m)
}

// P18.1: Add takes each in, behind the others; those that were there stay as they were.
func TestAdd(t *testing.T) {
	g, m := grown(t)
	for _, p := range some() {
		add(t, g, m, p)
		expect(t, "a step", g, m, those("abcdefghx")...)
	}
	size := 0
	for _, x := range those("abcdefghx") {
		size += tx.Size(x)
	}
	if got := g.All(); got != (graph.Sum{Count: 9, Bytes: size, Fee: 54321 - 1}) {
		t.Errorf("All is %v, not of 9, %d, 54320", got, size)
	}
}

// P18.1: Add asks nothing of tx.Check, nor of how great a fee is.
func TestAddOfAnyFields(t *testing.T) {
	long := pay(300, at(1))
	long.Ins[0].Key = make([]byte, 70000)
	g, m := grown(t)
	add(t, g, m,
		paid{api.Tx{}, math.MaxUint64},
		paid{api.Tx{Version: math.MaxUint32, Time: math.MaxUint32}, math.MaxUint64},
		paid{long, 0},
		paid{pay(0, at(2), at(2)), 1 << 63}, // one place twice: another one's alone would clash
		paid{pay(1, spend.Null()), 5},
	)
	expect(t, "any fields", g, m)
	refused(t, "the place of both Ins", g, m, pay(1, at(2)), api.ErrClash)
	remove(t, g, m, pay(0, at(2), at(2)))
	add(t, g, m, paid{pay(1, at(2)), 1})
	expect(t, "behind it", g, m)
}

// P18.1: one that is there already is ErrKnown, whatever its fee is, and nothing is changed: not its fee, nor its turn.
func TestAddKnown(t *testing.T) {
	g, m := grown(t)
	for i, p := range some() {
		add(t, g, m, p)
		for _, q := range some()[:i+1] {
			if err := g.Add(q.tx, q.fee+1); err != api.ErrKnown {
				t.Errorf("one that is there: %v", err)
			}
		}
		refused(t, "the last one", g, m, p.tx, api.ErrKnown)
	}
	none := api.Tx{Version: 8} // no In of it can clash
	add(t, g, m, paid{none, 5})
	refused(t, "no Ins", g, m, none, api.ErrKnown)
}

// P18.1: transactions of which only one field is another one are unlike ones.
func TestAddUnlike(t *testing.T) {
	first := pay(2)
	l := []api.Tx{first}
	for range 4 {
		l = append(l, tx.Clone(first))
	}
	l[1].Version++
	l[2].Outs[1].Value++
	l[3].Outs[0].Lock[31]++
	l[4].Time++
	g, m := grown(t)
	for i, x := range l {
		add(t, g, m, paid{x, uint64(i)})
	}
	expect(t, "unlike ones", g, m)
	key, seq := pay(1, at(1)), pay(1, at(1))
	key.Ins[0].Key[1]++
	seq.Ins[0].Seq++
	add(t, g, m, paid{pay(1, at(1)), 3})
	refused(t, "another Key", g, m, key, api.ErrClash)
	refused(t, "another Seq", g, m, seq, api.ErrClash)
}

// P18.1: one of which any In, the first or the last, is spent by one that is there, by any In of it, is ErrClash, and nothing is changed.
func TestAddClash(t *testing.T) {
	g, m := grown(t, some()...)
	taken := []api.Point{at(1), at(2), at(3), at(4), at(5)}
	for _, x := range those("cdefgx") {
		for _, in := range x.Ins {
			taken = append(taken, in.From)
		}
	}
	for _, p := range taken {
		for i := range 3 {
			from := []api.Point{at(21), at(22)}
			refused(t, "spent", g, m, pay(1, slices.Insert(from, i, p)...), api.ErrClash)
		}
	}
	refused(t, "both spent", g, m, pay(1, at(1), at(5)), api.ErrClash)
	base := block(5)
	add(t, g, m, paid{base, 1})
	refused(t, "no place of an output, by two", g, m, block(6), api.ErrClash)
}

// block is a first transaction of a block of a height below 256.
func block(height byte) api.Tx {
	t := pay(1, spend.Null())
	t.Ins[0].Key = []byte{height, 0, 0, 0}
	return t
}

// P18.1: a place beside one that is spent is none that is spent.
func TestAddBesideAClash(t *testing.T) {
	g, m := grown(t, some()...)
	a, h := named()["a"], named()["h"]
	first, last := at(1), at(1)
	first.Tx[0] ^= 1
	last.Tx[31] ^= 1
	for i, p := range []api.Point{
		first, last, {Tx: at(1).Tx, N: 2}, {Tx: at(1).Tx, N: 0}, {Tx: at(1).Tx, N: 1 + 1<<31}, {Tx: at(1).Tx, N: 1 + 1<<16},
		out(a, 3), out(a, 5), out(h, 0), out(h, 2), out(h, 4), out(h, math.MaxUint32-1),
	} {
		add(t, g, m, paid{pay(1, p), uint64(i)})
	}
	expect(t, "beside", g, m)
}

// P18.1: one that another one that is there hangs on, by any Out, is ErrShape, and nothing is changed; once none does it can be added.
func TestAddShape(t *testing.T) {
	for n := range uint32(4) {
		late := pay(4, at(9))
		kid := pay(1, at(10), out(late, n))
		g, m := grown(t, append(some(), paid{kid, 6})...)
		expect(t, "ahead of what it spends", g, m, late)
		refused(t, "late", g, m, late, api.ErrShape)
		below := pay(1, out(kid, 0))
		add(t, g, m, paid{below, 7})
		refused(t, "late, of two", g, m, late, api.ErrShape)
		remove(t, g, m, kid)
		add(t, g, m, paid{late, 8}, paid{kid, 9})
		expect(t, "none hangs on it", g, m)
		if got := g.Up(tx.ID(kid)); !slices.Equal(got, idsOf([]api.Tx{late, kid})) {
			t.Errorf("Up is %x", got)
		}
	}
}

// P18.1: one that spends a place behind the last Out hangs on nothing: it neither keeps the other one out, nor is it held by it.
func TestAddBehindTheLastOut(t *testing.T) {
	for _, n := range []uint32{2, 3, 1 << 16, 1 << 31, math.MaxUint32} {
		x := pay(2, at(9))
		y := pay(1, out(x, n))
		for _, l := range [][]paid{{{x, 1}, {y, 2}}, {{y, 2}, {x, 1}}} {
			g, m := grown(t, l...)
			expect(t, "behind the last Out", g, m)
			if got := g.Down(tx.ID(x)); !slices.Equal(got, idsOf([]api.Tx{x})) {
				t.Errorf("Down is %x", got)
			}
			if got := g.Up(tx.ID(y)); !slices.Equal(got, idsOf([]api.Tx{y})) {
				t.Errorf("Up is %x", got)
			}
			refused(t, "spent all the same", g, m, pay(3, out(x, n)), api.ErrClash)
			cut(t, g, m, x)
			add(t, g, m, paid{x, 4})
			cut(t, g, m, y)
			expect(t, "cut", g, m, y)
		}
	}
	none := pay(0, at(9)) // without Outs nothing can hang on it
	g, m := grown(t, paid{pay(1, out(none, 0)), 2}, paid{none, 3})
	expect(t, "no Outs", g, m)
}

// P18.1: of the errors that are due together the one that is named first is told.
func TestAddErrors(t *testing.T) {
	x := pay(2, at(1), at(2))
	kid := paid{pay(1, out(x, 1)), 3}
	clash := paid{pay(1, at(2)), 4}
	for what, c := range map[string]struct {
		there []paid
		want  error
	}{
		"known, and hung on":     {[]paid{{x, 1}, kid}, api.ErrKnown},
		"clashing, and hung on":  {[]paid{kid, clash}, api.ErrClash},
		"hung on, then clashing": {[]paid{clash, kid}, api.ErrClash},
		"hung on":                {[]paid{kid}, api.ErrShape},
		"clashing":               {[]paid{clash}, api.ErrClash},
		"nothing":                {nil, nil},
	} {
		g, _ := grown(t, c.there...)
		if err := g.Add(x, 5); err != c.want {
			t.Errorf("%s: %v, not %v", what, err, c.want)
		}
	}
}

// P18.1, P0.5: in whatever order they come, each behind those that it hangs on, they hang together as before.
func TestAddInAnyOrder(t *testing.T) {
	l := some()
	for _, order := range [][]int{
		{0, 1, 2, 3, 4, 5, 6, 7, 8},
		{8, 7, 1, 0, 6, 3, 2, 4, 5},
		{0, 3, 1, 8, 2, 4, 5, 6, 7},
		{7, 1, 0, 2, 4, 3, 5, 8, 6},
	} {
		g, m := grown(t)
		for _, i := range order {
			add(t, g, m, l[i])
		}
		expect(t, "another order", g, m)
	}
}

// P0.4: what is handed in is neither changed, nor kept, nor is what lies behind its length touched.
func TestAddKeepsNothing(t *testing.T) {
	x := pay(3, at(1), at(2))
	was := tx.Clone(x)
	behindIns := append(x.Ins, api.In{From: at(7)})
	behindOuts := append(x.Outs, api.Out{Value: 66})
	behindKey := append(x.Ins[0].Key, 55)
	x.Ins, x.Outs = behindIns[:2], behindOuts[:3]
	x.Ins[0].Key = behindKey[:2]
	g, m := &graph.Graph{}, modelOf(paid{was, 9})
	if err := g.Add(x, 9); err != nil {
		t.Fatal(err)
	}
	if !tx.Same(x, was) || behindIns[2].From != at(7) || behindOuts[3].Value != 66 || behindKey[2] != 55 {
		t.Errorf("Add changed what was handed in: %v", x)
	}
	clear(behindKey)
	clear(behindIns[1].Key)
	clear(behindIns)
	clear(behindOuts)
	expect(t, "behind a change", g, m, x)
	remove(t, g, m, was)
	expect(t, "removed", g, m, was)
}
