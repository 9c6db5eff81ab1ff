package conn_test

import (
	"errors"
	"slices"
	"strconv"
	"testing"

	"sargasso/api"
	"sargasso/block"
	"sargasso/coins"
	"sargasso/spend"
	"sargasso/tx"
)

// someHash is a digest of unlike bytes, another one for each n.
func someHash(n int) (h api.Hash) {
	for i := range h {
		h[i] = byte(9*i + 15*n + 2)
	}
	h[30] = byte(n >> 8)
	return h
}

// at is where coin number n is.
func at(n int) api.Point {
	return api.Point{Tx: someHash(n), N: uint32(n)}
}

// key is another key for each n.
func key(n int) []byte {
	return []byte("key " + strconv.Itoa(n))
}

// coin is one of this value and height, not Base, whose key is number n.
func coin(n int, value uint64, height int) api.Money {
	return api.Money{Value: value, Lock: spend.Lock(key(n)), Height: height}
}

// base is c as one that a first transaction made.
func base(c api.Money) api.Money {
	c.Base = true
	return c
}

// some is where coin number n is at place n, for n from 0 on: as coins for Tx, and as a list for a set.
type some []api.Money

// Get makes some Coins. What it has not comes with a coin that nobody may take.
func (l some) Get(p api.Point) (api.Money, bool) {
	for n, c := range l {
		if at(n) == p {
			return c, true
		}
	}
	return api.Money{Value: 1000000, Lock: spend.Lock(key(int(p.N)))}, false
}

// all is l with its places.
func (l some) all() (out []api.Spent) {
	for n, c := range l {
		out = append(out, api.Spent{At: at(n), Coin: c})
	}
	return out
}

// plain are so many coins of 100, of heights from 0 on.
func plain(many int) (l some) {
	for n := range many {
		l = append(l, coin(n, 100, n))
	}
	return l
}

// setOf is a set of l.
func setOf(t *testing.T, l []api.Spent) *coins.Set {
	t.Helper()
	s := &coins.Set{}
	for _, c := range l {
		if err := s.Add(c.At, c.Coin); err != nil {
			t.Fatalf("Add at %v: %v", c.At, err)
		}
	}
	return s
}

// pay is a transaction that spends the coins of these numbers, by their keys, and pays one Out, whose key is number 500.
func pay(value uint64, from ...int) api.Tx {
	t := api.Tx{Version: 2, Outs: []api.Out{{Value: value, Lock: spend.Lock(key(500))}}}
	for _, n := range from {
		t.Ins = append(t.Ins, api.In{From: at(n), Key: key(n), Seq: api.Final})
	}
	return t
}

// with is t with these Seqs in its first Ins.
func with(t api.Tx, seqs ...uint32) api.Tx {
	t = tx.Clone(t)
	for i, n := range seqs {
		t.Ins[i].Seq = n
	}
	return t
}

// timed is t with this Time.
func timed(t api.Tx, time uint32) api.Tx {
	t.Time = time
	return t
}

// spending is t with one more In, which spends Out n of from, by the key of pay's Outs, or of block.First's as first makes it.
func spending(t api.Tx, from api.Tx, n int) api.Tx {
	t = tx.Clone(t)
	k := key(500)
	if tx.Base(from) {
		k = key(600)
	}
	t.Ins = append(t.Ins, api.In{From: out(from, n), Key: k, Seq: api.Final})
	return t
}

// out is the place of an Out of t.
func out(t api.Tx, n int) api.Point {
	return api.Point{Tx: tx.ID(t), N: uint32(n)}
}

// made are the coins of t's Outs, put on at a height.
func made(t api.Tx, height int) (l []api.Spent) {
	for n, o := range t.Outs {
		c := api.Money{Value: o.Value, Lock: o.Lock, Height: height, Base: tx.Base(t)}
		l = append(l, api.Spent{At: out(t, n), Coin: c})
	}
	return l
}

// first is a first transaction of a height that makes so much, its key number 600.
func first(height int, value uint64) api.Tx {
	return block.First(height, value, spend.Lock(key(600)), nil)
}

// rooted is b with its Root.
func rooted(b api.Block) api.Block {
	b.Head.Root = block.Root(b)
	return b
}

// of is a block of these transactions that may stand on top of pasts by its header.
func of(pasts []uint32, txs ...api.Tx) api.Block {
	time := pasts[len(pasts)-1] + 1
	return rooted(api.Block{Head: api.Head{Version: 1, Prev: someHash(900), Time: time, Work: 7, Nonce: 3}, Txs: txs})
}

// tens are the pasts of so many blocks: 1000, 1010 and so on.
func tens(many int) (l []uint32) {
	for n := range many {
		l = append(l, 1000+10*uint32(n))
	}
	return l
}

// fault is an error by its places, the outermost first, and what stands within.
type fault struct {
	places string
	err    error
}

// fails is err, around these places.
func fails(err error, places ...int) fault {
	f := fault{err: err}
	for _, n := range places {
		f.places += strconv.Itoa(n) + " "
	}
	return f
}

// faultOf takes err apart: nothing but an *api.At may be around it.
func faultOf(err error) fault {
	var places []int
	for {
		at, is := err.(*api.At)
		if !is {
			return fails(err, places...)
		}
		places = append(places, at.Pos)
		err = at.Err
	}
}

// around writes into each *api.At of err, so that one that is handed out again would be seen.
func around(err error) {
	var at *api.At
	for errors.As(err, &at) {
		err = at.Err
		at.Pos, at.Err = 99, api.ErrWord
	}
}

// sameSet tells whether s has l, in whatever order, and nothing else.
func sameSet(t *testing.T, s *coins.Set, l []api.Spent) bool {
	t.Helper()
	return slices.Equal(s.All(), setOf(t, l).All())
}

// without is l but for the coins at these places, in new memory.
func without(l []api.Spent, places ...api.Point) []api.Spent {
	return slices.DeleteFunc(slices.Clone(l), func(c api.Spent) bool { return slices.Contains(places, c.At) })
}
