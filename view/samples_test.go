package view_test

import (
	"maps"
	"math"
	"slices"
	"testing"

	"sargasso/api"
	"sargasso/coins"
	"sargasso/spend"
	"sargasso/tx"
	"sargasso/view"
)

// someHash is a digest of unlike bytes, another one for each n.
func someHash(n int) (h api.Hash) {
	for i := range h {
		h[i] = byte(11*i + 17*n + 3)
	}
	return h
}

// at is where the coin number n of some is.
func at(n int) api.Point {
	return api.Point{Tx: someHash(n), N: uint32(n)}
}

// some are coins of unlike fields, in the order of their numbers.
func some() []api.Spent {
	l := []api.Spent{
		{Coin: api.Money{}},
		{Coin: api.Money{Value: 100, Lock: someHash(101), Height: 1}},
		{Coin: api.Money{Value: 200, Lock: someHash(102), Height: 2, Base: true}},
		{Coin: api.Money{Value: api.MaxMoney, Lock: someHash(103), Height: api.MaxHeight}},
		{Coin: api.Money{Value: 400, Lock: someHash(104), Height: -5, Base: true}},
		{Coin: api.Money{Value: 500, Height: math.MaxInt}},
	}
	for n := range l {
		l[n].At = at(n)
	}
	return l
}

// setOf is a set of l.
func setOf(t *testing.T, l []api.Spent) *coins.Set {
	t.Helper()
	s := &coins.Set{}
	for _, c := range l {
		add(t, s, c.At, c.Coin)
	}
	return s
}

// add is the set's Add, which may not fail.
func add(t *testing.T, s *coins.Set, p api.Point, c api.Money) {
	t.Helper()
	if err := s.Add(p, c); err != nil {
		t.Fatalf("Add at %v: %v", p, err)
	}
}

// outs are Outs of these values, each with another lock.
func outs(values ...uint64) (l []api.Out) {
	for n, value := range values {
		l = append(l, api.Out{Value: value, Lock: someHash(200 + n)})
	}
	return l
}

// pay is a transaction that spends these places, for these Outs.
func pay(l []api.Out, from ...api.Point) api.Tx {
	t := api.Tx{Version: 1, Outs: l}
	for n, p := range from {
		t.Ins = append(t.Ins, api.In{From: p, Key: []byte{byte(n), 7}, Seq: uint32(n)})
	}
	return t
}

// out is the place of an Out of t.
func out(t api.Tx, n int) api.Point {
	return api.Point{Tx: tx.ID(t), N: uint32(n)}
}

// made are the coins of t's Outs, put at a height.
func made(t api.Tx, height int) (l []api.Spent) {
	for n, o := range t.Outs {
		l = append(l, api.Spent{At: out(t, n), Coin: api.Money{Value: o.Value, Lock: o.Lock, Height: height}})
	}
	return l
}

// three are one that spends two coins of some, one that spends an Out of it and another coin, and one that spends Outs of both.
func three() []api.Tx {
	a := pay(outs(50, 51, 52), at(1), at(2))
	b := pay(outs(10, 11), out(a, 1), at(0))
	c := pay(outs(20), out(b, 1), out(a, 2))
	return []api.Tx{a, b, c}
}

// put is the view's Put, which may not fail, of each of l, at this height.
func put(t *testing.T, v *view.View, height int, l ...api.Tx) {
	t.Helper()
	for i, x := range l {
		if err := v.Put(x, height); err != nil {
			t.Fatalf("Put of %d: %v", i, err)
		}
	}
}

// take is the view's Take, which may not fail, of each of l.
func take(t *testing.T, v *view.View, l ...api.Tx) {
	t.Helper()
	for i, x := range l {
		if err := v.Take(x); err != nil {
			t.Fatalf("Take of %d: %v", i, err)
		}
	}
}

// state is what a view should show.
type state struct {
	there map[api.Point]api.Money
	gone  map[api.Point]api.Hash
	len   int
}

// over is what a view over a set of l should show.
func over(l []api.Spent) state {
	want := state{there: map[api.Point]api.Money{}, gone: map[api.Point]api.Hash{}}
	for _, c := range l {
		want.there[c.At] = c.Coin
	}
	return want
}

// and is what should be shown when txs were put beside, at this height.
func (want state) and(height int, txs ...api.Tx) state {
	next := state{maps.Clone(want.there), maps.Clone(want.gone), want.len + len(txs)}
	for _, x := range txs {
		for _, in := range x.Ins {
			delete(next.there, in.From)
			next.gone[in.From] = tx.ID(x)
		}
		for _, c := range made(x, height) {
			next.there[c.At] = c.Coin
		}
	}
	return next
}

// places are those of what want names, and others beside them.
func (want state) places() (l []api.Point) {
	l = []api.Point{{}, spend.Null(), {Tx: someHash(99)}, {N: 1}}
	beside := func(p api.Point) {
		flipped := p
		flipped.Tx[31] ^= 1
		l = append(l, p, flipped)
		for _, n := range []uint32{p.N + 1, p.N - 1, p.N + 100, math.MaxInt32, 1 << 31, math.MaxUint32} {
			l = append(l, api.Point{Tx: p.Tx, N: n})
		}
	}
	for p := range want.there {
		beside(p)
	}
	for p, by := range want.gone {
		beside(p)
		beside(api.Point{Tx: by})
	}
	return l
}

// expect asks that v shows what it should, and nothing at other places.
func expect(t *testing.T, what string, v *view.View, want state, more ...api.Point) {
	t.Helper()
	if n := v.Len(); n != want.len {
		t.Errorf("%s: Len is %d, not %d", what, n, want.len)
	}
	for _, p := range slices.Concat(want.places(), more) {
		c, there := want.there[p]
		if got, is := v.Get(p); got != c || is != there {
			t.Errorf("%s: Get at %v is %v, %v, not %v, %v", what, p, got, is, c, there)
		}
		by, gone := want.gone[p]
		if got, is := v.Spent(p); got != by || is != gone {
			t.Errorf("%s: Spent at %v is %v, %v, not %v, %v", what, p, got, is, by, gone)
		}
	}
}

// expectSet asks that s has l, in whatever order, and nothing else.
func expectSet(t *testing.T, what string, s *coins.Set, l []api.Spent) {
	t.Helper()
	all, want := s.All(), setOf(t, l).All()
	if !slices.Equal(all, want) {
		t.Errorf("%s: the set has %v, not %v", what, all, want)
	}
}

// refused asks that Put of x is this error, and that v shows behind it what it should.
func refused(t *testing.T, what string, v *view.View, x api.Tx, err error, want state) {
	t.Helper()
	for _, height := range []int{0, 9, 77} {
		if got := v.Put(x, height); got != err {
			t.Errorf("%s: Put is %v, not %v", what, got, err)
		}
	}
	expect(t, what, v, want, places(x)...)
}

// stays asks that Take of x is this error, and that v shows behind it what it should.
func stays(t *testing.T, what string, v *view.View, x api.Tx, err error, want state) {
	t.Helper()
	for range 2 {
		if got := v.Take(x); got != err {
			t.Errorf("%s: Take is %v, not %v", what, got, err)
		}
	}
	expect(t, what, v, want, places(x)...)
}

// places are those that x names, and those of its Outs.
func places(x api.Tx) (l []api.Point) {
	for _, in := range x.Ins {
		l = append(l, in.From)
	}
	for n := range x.Outs {
		l = append(l, out(x, n))
	}
	return append(l, out(x, len(x.Outs)))
}
