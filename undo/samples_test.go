package undo_test

import (
	"errors"
	"slices"
	"testing"

	"sargasso/api"
	"sargasso/coins"
	"sargasso/spend"
	"sargasso/tx"
)

// someHash is a digest of unlike bytes, another one for each n.
func someHash(n int) (h api.Hash) {
	for i := range h {
		h[i] = byte(7*i + 13*n + 1)
	}
	return h
}

// place is where the coin number n of some is.
func place(n int) api.Point {
	return api.Point{Tx: someHash(n), N: uint32(n)}
}

// some are coins of unlike fields, in the order of their numbers.
func some() []api.Spent {
	l := []api.Spent{
		{Coin: api.Money{Value: 0}},
		{Coin: api.Money{Value: 100, Lock: someHash(101), Height: 1}},
		{Coin: api.Money{Value: 200, Lock: someHash(102), Height: 2, Base: true}},
		{Coin: api.Money{Value: api.MaxMoney, Lock: someHash(103), Height: api.MaxHeight}},
		{Coin: api.Money{Value: 400, Lock: someHash(104), Height: -5, Base: true}},
		{Coin: api.Money{Value: 500, Height: 1 << 40}},
	}
	for n := range l {
		l[n].At = place(n)
	}
	return l
}

// with is l and others behind it, in new memory.
func with(l []api.Spent, others ...api.Spent) []api.Spent {
	return slices.Concat(l, others)
}

// without is l in new memory, but for the coins at these places.
func without(l []api.Spent, places ...api.Point) []api.Spent {
	return slices.DeleteFunc(slices.Clone(l), func(c api.Spent) bool { return slices.Contains(places, c.At) })
}

// setOf is a set of l.
func setOf(t *testing.T, l []api.Spent) *coins.Set {
	t.Helper()
	s := &coins.Set{}
	for _, c := range l {
		if err := s.Add(c.At, c.Coin); err != nil {
			t.Fatalf("Add at %v: %v", c.At, err)
		}
	}
	return s
}

// expect asks that s has l, in whatever order, and nothing else.
func expect(t *testing.T, what string, s *coins.Set, l []api.Spent) {
	t.Helper()
	want := slices.SortedFunc(slices.Values(l), func(a, b api.Spent) int {
		if spend.Less(a.At, b.At) {
			return -1
		}
		return 1
	})
	all := s.All()
	if len(all) != len(want) || s.Len() != len(want) {
		t.Errorf("%s: there are %d coins, not %d", what, len(all), len(want))
	}
	for i := range min(len(all), len(want)) {
		if all[i] != want[i] {
			t.Errorf("%s: coin %d is %v, not %v", what, i, all[i], want[i])
			return
		}
	}
}

// expectAt asks that err is of an error around a place.
func expectAt(t *testing.T, what string, err error, pos int, want error) {
	t.Helper()
	var at *api.At
	if !errors.As(err, &at) || err != error(at) || at.Pos != pos || at.Err != want {
		t.Errorf("%s: %v, not %d: %v", what, err, pos, want)
	}
}

// outs are Outs of these values, each with another lock.
func outs(values ...uint64) (l []api.Out) {
	for n, value := range values {
		l = append(l, api.Out{Value: value, Lock: someHash(200 + n)})
	}
	return l
}

// pay is a transaction that spends these places, for these Outs.
func pay(l []api.Out, from ...api.Point) api.Tx {
	t := api.Tx{Version: 1, Outs: l}
	for n, p := range from {
		t.Ins = append(t.Ins, api.In{From: p, Key: []byte{byte(n), 7}, Seq: uint32(n)})
	}
	return t
}

// first is a transaction that makes new coins, for these Outs.
func first(l []api.Out) api.Tx {
	return pay(l, spend.Null())
}

// out is the place of an Out of t.
func out(t api.Tx, n int) api.Point {
	return api.Point{Tx: tx.ID(t), N: uint32(n)}
}

// made are the coins of t's Outs, put on at a height, whether t is a block's first or not.
func made(t api.Tx, height int, base bool) (l []api.Spent) {
	for n, o := range t.Outs {
		l = append(l, api.Spent{At: out(t, n), Coin: api.Money{Value: o.Value, Lock: o.Lock, Height: height, Base: base}})
	}
	return l
}

// three are a first transaction, one that spends two coins of some, and one that spends an Out of it and a third coin.
func three() []api.Tx {
	a := first(outs(50, 51))
	b := pay(outs(10, 11, 12), place(1), place(2))
	c := pay(outs(20, 21), out(b, 1), place(0))
	return []api.Tx{a, b, c}
}

// takenOfThree is what three take of some, at a height.
func takenOfThree(height int) []api.Spent {
	middle := made(three()[1], height, false)[1]
	return []api.Spent{some()[1], some()[2], middle, some()[0]}
}

// leftByThree are the coins that three leave of some, at a height.
func leftByThree(height int) []api.Spent {
	l := three()
	left := with(some()[3:], made(l[0], height, true)...)
	left = with(left, made(l[1], height, false)...)
	return with(without(left, out(l[1], 1)), made(l[2], height, false)...)
}

// copied is l in new memory.
func copied(l []api.Tx) (c []api.Tx) {
	for _, t := range l {
		c = append(c, tx.Clone(t))
	}
	return c
}

// equal holds lists of transactions against each other.
func equal(a, b []api.Tx) bool {
	return slices.EqualFunc(a, b, tx.Same)
}
