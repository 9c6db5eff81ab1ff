package graph_test

import (
	"math"
	"slices"
	"testing"

	"sargasso/api"
	"sargasso/graph"
	"sargasso/tx"
)

// P18.1: Up and Down are one and all that it hangs on, or that hang on it, and so on, each once.
func TestUpAndDown(t *testing.T) {
	g, m := grown(t, some()...)
	expect(t, "some", g, m)
	for letter, want := range map[string][2]string{
		"a": {"a", "acdefg"}, "b": {"b", "bcefg"}, "c": {"abc", "cef"}, "d": {"ad", "df"}, "e": {"abce", "ef"},
		"f": {"abcdef", "f"}, "g": {"abg", "g"}, "h": {"h", "h"}, "x": {"x", "x"},
	} {
		id := tx.ID(named()[letter])
		if got := g.Up(id); !slices.Equal(got, idsOf(those(want[0]))) {
			t.Errorf("Up of %s is %x, not %s", letter, got, want[0])
		}
		if got := g.Down(id); !slices.Equal(got, idsOf(those(want[1]))) {
			t.Errorf("Down of %s is %x, not %s", letter, got, want[1])
		}
	}
}

// P18.1: UpSum and DownSum count each once, its bytes by tx.Size, the fees going round in 64 bits.
func TestSums(t *testing.T) {
	g, _ := grown(t, some()...)
	size := func(letters string) (n int) {
		for _, x := range those(letters) {
			n += tx.Size(x)
		}
		return n
	}
	for letter, want := range map[string][2]graph.Sum{
		"a": {{Count: 1, Bytes: size("a"), Fee: 1}, {Count: 6, Bytes: size("acdefg"), Fee: 54301}},
		"b": {{Count: 1, Bytes: size("b"), Fee: 20}, {Count: 5, Bytes: size("bcefg"), Fee: 50320}},
		"f": {{Count: 6, Bytes: size("abcdef"), Fee: 54321 + 1<<62}, {Count: 1, Bytes: size("f"), Fee: 1 << 62}},
		"g": {{Count: 3, Bytes: size("abg"), Fee: 21 + 3<<62}, {Count: 1, Bytes: size("g"), Fee: 3 << 62}},
		"h": {{Count: 1, Bytes: size("h")}, {Count: 1, Bytes: size("h")}},
		"x": {{Count: 1, Bytes: size("x"), Fee: math.MaxUint64}, {Count: 1, Bytes: size("x"), Fee: math.MaxUint64}},
	} {
		id := tx.ID(named()[letter])
		if up, down := g.UpSum(id), g.DownSum(id); up != want[0] || down != want[1] {
			t.Errorf("%s: UpSum is %v, not %v, DownSum %v, not %v", letter, up, want[0], down, want[1])
		}
	}
}

// P18.1: All goes round in 64 bits, and back again.
func TestAllGoesRound(t *testing.T) {
	a, b, c := pay(1, at(1)), pay(1, at(2)), pay(1, at(3))
	g, m := grown(t, paid{a, math.MaxUint64}, paid{b, math.MaxUint64}, paid{c, 5})
	if got := g.All().Fee; got != 3 {
		t.Errorf("of all: %d", got)
	}
	cut(t, g, m, a)
	if got := g.All().Fee; got != 4 {
		t.Errorf("of two: %d", got)
	}
	remove(t, g, m, c)
	if got := g.All(); got != (graph.Sum{Count: 1, Bytes: tx.Size(b), Fee: math.MaxUint64}) {
		t.Errorf("of one: %v", got)
	}
}

// P18.1: a row in which each hangs on the one ahead, cut at its beginning and removed from its middle on.
func TestRow(t *testing.T) {
	const many = 3000
	g := &graph.Graph{}
	l := []api.Tx{pay(1, at(1))}
	for i := range many - 1 {
		l = append(l, pay(1, out(l[i], 0)))
	}
	for i, x := range l {
		if err := g.Add(x, uint64(i)); err != nil {
			t.Fatal(err)
		}
	}
	size := 0
	for i, x := range l {
		size += tx.Size(x)
		if i%500 != 0 && i != many-1 {
			continue
		}
		want := graph.Sum{Count: i + 1, Bytes: size, Fee: uint64(i * (i + 1) / 2)}
		if got := g.UpSum(tx.ID(x)); got != want {
			t.Errorf("UpSum of %d is %v, not %v", i, got, want)
		}
		if got := g.DownSum(tx.ID(x)).Count; got != many-i {
			t.Errorf("DownSum of %d is of %d", i, got)
		}
	}
	if got := g.Up(tx.ID(l[many-1])); !slices.Equal(got, idsOf(l)) {
		t.Errorf("Up is %d of them", len(got))
	}
	if got := g.Down(tx.ID(l[0])); !slices.Equal(got, idsOf(l)) {
		t.Errorf("Down is %d of them", len(got))
	}
	if err := g.Cut(tx.ID(l[0])); err != nil {
		t.Error(err)
	}
	got, err := g.Remove(tx.ID(l[many/2]))
	if !slices.EqualFunc(got, l[many/2:], tx.Same) || err != nil {
		t.Errorf("Remove is %d of them, %v", len(got), err)
	}
	if !slices.EqualFunc(g.Order(), l[1:many/2], tx.Same) {
		t.Error("Order is another one")
	}
}

// P18.1, P0.1: rungs, each of two that both hang on both of the rung below: there are more ways from the last to the first than can be gone one by one.
func TestLadder(t *testing.T) {
	const rungs = 100
	g := &graph.Graph{}
	l := []api.Tx{pay(2, at(1)), pay(2, at(2))}
	for i := range rungs - 1 {
		a, b := l[2*i], l[2*i+1]
		l = append(l, pay(2, out(a, 0), out(b, 0)), pay(2, out(a, 1), out(b, 1)))
	}
	for i, x := range l {
		if err := g.Add(x, uint64(i)); err != nil {
			t.Fatal(err)
		}
	}
	for i, x := range l {
		rung := i / 2
		if up, down := g.UpSum(tx.ID(x)).Count, g.DownSum(tx.ID(x)).Count; up != 2*rung+1 || down != 2*(rungs-rung)-1 {
			t.Errorf("%d: Up is of %d, Down of %d", i, up, down)
		}
	}
	if got := g.Up(tx.ID(l[2*rungs-1])); !slices.Equal(got, idsOf(slices.Delete(slices.Clone(l), 2*rungs-2, 2*rungs-1))) {
		t.Errorf("Up is %d of them", len(got))
	}
	got, err := g.Remove(tx.ID(l[0]))
	if !slices.EqualFunc(got, slices.Delete(slices.Clone(l), 1, 2), tx.Same) || err != nil {
		t.Errorf("Remove is %d of them, %v", len(got), err)
	}
}

// P18.1: one that many hang on, one that hangs on many, and one that spends many Outs of one.
func TestWide(t *testing.T) {
	const many = 400
	top := pay(many+3, at(1))
	l := []paid{{top, 1}}
	var from, own []api.Point
	for i := range uint32(many) {
		kid := pay(1, out(top, i))
		l = append(l, paid{kid, 1})
		from = append(from, out(kid, 0))
	}
	end := pay(3, from...)
	for i := range uint32(3) {
		own = append(own, out(end, i), out(top, many+i))
	}
	l = append(l, paid{end, 1}, paid{pay(1, own...), 1})
	g, _ := grown(t)
	for _, p := range l {
		if err := g.Add(p.tx, p.fee); err != nil {
			t.Fatal(err)
		}
	}
	for i, p := range l {
		up, down := g.UpSum(tx.ID(p.tx)), g.DownSum(tx.ID(p.tx))
		want := []int{2, 3} // of each in the middle
		switch i {
		case 0:
			want = []int{1, many + 3}
		case many + 1:
			want = []int{many + 2, 2}
		case many + 2:
			want = []int{many + 3, 1}
		}
		if up.Count != want[0] || up.Fee != uint64(want[0]) || down.Count != want[1] || down.Fee != uint64(want[1]) {
			t.Errorf("%d: UpSum is %v, DownSum %v, not of %v", i, up, down, want)
		}
	}
}
