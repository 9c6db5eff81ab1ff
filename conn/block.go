package conn

import (
	"bytes"

	"sargasso/api"
	"sargasso/block"
	"sargasso/coins"
	"sargasso/compact"
	"sargasso/tx"
)

// checkPlace is what is wrong with b alone, or at its place on top of pasts, whatever the coins are.
func checkPlace(b api.Block, pasts []uint32) error {
	if err := block.Check(b); err != nil {
		return err
	}
	height := len(pasts)
	switch {
	case b.Head.Time <= pasts[height-1]:
		return api.ErrTime
	case !bytes.HasPrefix(b.Txs[0].Ins[0].Key, compact.Four(nil, uint32(height))):
		return api.ErrBase
	}
	return nil
}

// feesOf are the fees of b, which was checked, on s; or what is wrong with one of its transactions there, around its place.
func feesOf(s *coins.Set, b api.Block, pasts []uint32, maturity int) (uint64, error) {
	height := len(pasts)
	get := ahead{set: s, made: map[api.Point]api.Money{}}
	get.add(b.Txs[0], height, true)
	fees := uint64(0)
	for i := 1; i < len(b.Txs); i++ {
		fee, err := Tx(b.Txs[i], get, height, pasts, maturity)
		if err != nil {
			return 0, &api.At{Pos: i, Err: err}
		}
		sum, is := compact.Sum(fees, fee)
		if !is {
			return 0, &api.At{Pos: i, Err: api.ErrValue}
		}
		fees = sum
		get.add(b.Txs[i], height, false)
	}
	return fees, nil
}

// ahead is a set, and what a block's transactions made so far. What they took need not be known: block.Check lets no two Ins of a block spend one coin, so that nobody asks for it again.
type ahead struct {
	set  *coins.Set
	made map[api.Point]api.Money
}

// Get is the coin at p: the set's, or one that was made.
func (a ahead) Get(p api.Point) (api.Money, bool) {
	if c, is := a.set.Get(p); is {
		return c, true
	}
	c, is := a.made[p]
	return c, is
}

// add takes t's Outs in as made.
func (a ahead) add(t api.Tx, height int, base bool) {
	id := tx.ID(t)
	for n, out := range t.Outs {
		a.made[api.Point{Tx: id, N: uint32(n)}] = api.Money{Value: out.Value, Lock: out.Lock, Height: height, Base: base}
	}
}
