package conn_test

import (
	"encoding/binary"
	"math"
	"slices"
	"testing"

	"sargasso/api"
	"sargasso/block"
	"sargasso/coins"
	"sargasso/conn"
	"sargasso/spend"
	"sargasso/tx"
)

// modelTx is what Tx should answer, by the numbers themselves.
func modelTx(x asked) (uint64, fault) {
	height, last := len(x.pasts), x.pasts[len(x.pasts)-1]
	var in []api.Money
	for i := range x.tx.Ins {
		c, is := x.coins.Get(x.tx.Ins[i].From)
		if !is {
			return 0, fails(api.ErrMissing, i)
		}
		if c.Base && height-c.Height < x.maturity {
			return 0, fails(api.ErrYoung, i)
		}
		in = append(in, c)
	}
	comes, goes := uint64(0), uint64(0)
	for i, c := range in {
		if spend.Lock(x.tx.Ins[i].Key) != c.Lock || len(x.tx.Ins[i].Key) > 80 {
			return 0, fails(api.ErrKey, i)
		}
		comes += c.Value // no more than a few, none of which goes far above most: this can't go round
	}
	for _, out := range x.tx.Outs {
		goes += out.Value
	}
	switch {
	case comes > 2100000000000000, goes > 2100000000000000:
		return 0, fails(api.ErrValue)
	case comes < goes:
		return 0, fails(api.ErrLess)
	case !modelFinal(x.tx, height, last), !modelMet(x.tx, in, x.pasts):
		return 0, fails(api.ErrEarly)
	}
	return comes - goes, fault{}
}

// modelFinal tells whether t's Time lets it in.
func modelFinal(t api.Tx, height int, last uint32) bool {
	if t.Time < 500000000 && int(t.Time) < height || t.Time >= 500000000 && t.Time < last {
		return true
	}
	return !slices.ContainsFunc(t.Ins, func(in api.In) bool { return in.Seq != math.MaxUint32 })
}

// modelMet tells whether each of t's locks is met.
func modelMet(t api.Tx, in []api.Money, pasts []uint32) bool {
	height, last := len(pasts), int64(pasts[len(pasts)-1])
	for i, c := range in {
		seq := t.Ins[i].Seq
		span := int64(seq % 65536)
		switch {
		case t.Version < 2, seq>>31 == 1:
		case seq>>22%2 == 1 && last < int64(pasts[belowOf(c.Height, height)])+512*span:
			return false
		case seq>>22%2 == 0 && int64(height) < int64(c.Height)+span:
			return false
		}
	}
	return true
}

// turns are numbers that look like chance, always the same ones.
type turns struct{ next uint32 }

// below is a number below n.
func (r *turns) below(n int) int {
	r.next = r.next*1664525 + 1013904223
	return int(r.next>>8) % n
}

// rarely is true once in n times.
func (r *turns) rarely(n int) bool {
	return r.below(n) == 0
}

// pick is one of l.
func pick[T any](r *turns, l ...T) T {
	return l[r.below(len(l))]
}

// pasts are those of so many blocks, near each other.
func (r *turns) pasts(many int) (l []uint32) {
	base := pick(r, 0, api.Split-1000)
	for range many {
		base += r.below(600)
		l = append(l, uint32(base))
	}
	return l
}

// seq is for the most part Final, or a lock that is near others.
func (r *turns) seq() uint32 {
	low := uint32(r.below(4))
	return pick(r, api.Final, api.Final, low, api.ByTime|low, api.Locked|low, api.Final-1)
}

// time is for the most part 0, or near a height or a past.
func (r *turns) time(pasts []uint32) uint32 {
	last := pasts[len(pasts)-1]
	return pick(r, 0, 0, 0, uint32(r.below(2*len(pasts))), last, last-1, last+1, api.Split+uint32(r.below(2000)))
}

// coin is number n of any, for the most part of a small value.
func (r *turns) coin(n, height int) api.Money {
	small := uint64(r.below(100))
	c := coin(n, pick(r, small, small, small, small, small, small, small, most/2, most-small), r.below(height+3)-1)
	c.Base = r.rarely(4)
	return c
}

// P16.1: many, held against the model.
func TestTxAgainstTheModel(t *testing.T) {
	r, seen := &turns{3}, map[error]int{}
	for range 20000 {
		height := 1 + r.below(9)
		var l some
		x := asked{tx: api.Tx{Version: uint32(r.below(4))}, pasts: r.pasts(height), maturity: r.below(4)}
		x.tx.Time = r.time(x.pasts)
		for n := range 1 + r.below(4) {
			l = append(l, r.coin(n, height))
			in := api.In{From: at(n), Key: key(n), Seq: r.seq()}
			if r.rarely(25) {
				in.Key = key(n + 1)
			}
			if r.rarely(25) {
				in.From = at(n + 5)
			}
			x.tx.Ins = append(x.tx.Ins, in)
		}
		for range r.below(3) {
			x.tx.Outs = append(x.tx.Outs, api.Out{Value: pick(r, uint64(r.below(80)), uint64(r.below(80)), uint64(r.below(80)), most/2, most)})
		}
		x.coins = l
		fee, want := modelTx(x)
		seen[want.err]++
		expectTx(t, "of many", x, fee, want)
	}
	for _, err := range []error{nil, api.ErrMissing, api.ErrYoung, api.ErrKey, api.ErrValue, api.ErrLess, api.ErrEarly} {
		if seen[err] < 300 {
			t.Errorf("too few of %v: %v", err, seen)
		}
	}
}

// stand are coins by their places: what stands at a point of a block.
type stand map[api.Point]api.Money

// Get makes a stand Coins.
func (l stand) Get(p api.Point) (api.Money, bool) {
	c, is := l[p]
	return c, is
}

// put puts x there, and tells what it took, and whether one of its Outs stood there already (which then stays).
func (l stand) put(x api.Tx, height int) (taken []api.Spent, twice bool) {
	for _, in := range x.Ins {
		if !tx.Base(x) {
			taken = append(taken, api.Spent{At: in.From, Coin: l[in.From]})
			delete(l, in.From)
		}
	}
	for _, c := range made(x, height) {
		if _, is := l[c.At]; is {
			twice = true
		} else {
			l[c.At] = c.Coin
		}
	}
	return taken, twice
}

// done is what Block should answer, and the coins behind it.
type done struct {
	taken []api.Spent
	fees  uint64
	fault fault
	left  []api.Spent
}

// modelBlock is what Block should answer, going through one stand of coins.
func modelBlock(have []api.Spent, b api.Block, pasts []uint32, r api.Rules) done {
	height := len(pasts)
	none := func(f fault) done { return done{fault: f, left: have} }
	if err := block.Check(b); err != nil {
		return none(faultOf(err))
	}
	if b.Head.Time <= pasts[height-1] {
		return none(fails(api.ErrTime))
	}
	if binary.LittleEndian.Uint32(b.Txs[0].Ins[0].Key) != uint32(height) {
		return none(fails(api.ErrBase))
	}
	l, out, twice := stand{}, done{}, -1
	for _, c := range have {
		l[c.At] = c.Coin
	}
	for i, x := range b.Txs {
		if i > 0 {
			fee, f := modelTx(asked{x, l, pasts, r.Maturity})
			if f.err != nil {
				return none(fault{fails(nil, i).places + f.places, f.err})
			}
			if out.fees += fee; out.fees > 2100000000000000 {
				return none(fails(api.ErrValue, i))
			}
		}
		taken, is := l.put(x, height)
		out.taken = append(out.taken, taken...)
		if is && twice < 0 {
			twice = i
		}
	}
	claim := uint64(0)
	for _, o := range b.Txs[0].Outs {
		claim += o.Value
	}
	if claim > modelReward(height, r.Halving)+out.fees {
		return none(fails(api.ErrReward))
	}
	if twice >= 0 {
		return none(fails(api.ErrTwice, twice))
	}
	for p, c := range l {
		out.left = append(out.left, api.Spent{At: p, Coin: c})
	}
	return out
}

// modelReward is 50 Coin, halved once and again.
func modelReward(height, halving int) uint64 {
	if halving < 1 {
		return 0
	}
	n := uint64(5000000000)
	for range height / halving {
		n /= 2
	}
	return n
}

// expectBlock asks for Block on have, which should be this, and then for Back, which should leave have.
func expectBlock(t *testing.T, what string, want done, have []api.Spent, b api.Block, pasts []uint32, r api.Rules) {
	t.Helper()
	s := setOf(t, have)
	was, wasPasts := block.Clone(b), slices.Clone(pasts)
	taken, fees, err := conn.Block(s, b, len(pasts), pasts, r)
	if f := faultOf(err); !slices.Equal(taken, want.taken) || fees != want.fees || f != want.fault {
		t.Errorf("%s: Block of %d at height %d: %d taken, %d, %v, not %d, %d, %v", what, len(b.Txs), len(pasts), len(taken), fees, f, len(want.taken), want.fees, want.fault)
	}
	around(err)
	if !sameSet(t, s, want.left) {
		t.Errorf("%s: the coins are %d, not these %d", what, s.Len(), len(want.left))
	}
	if !block.Same(b, was) || !slices.Equal(pasts, wasPasts) {
		t.Errorf("%s: what is handed in was changed", what)
	}
	if err == nil {
		expectBack(t, what, s, b, taken, have)
	}
}

// expectBack asks for Back, which should leave l.
func expectBack(t *testing.T, what string, s *coins.Set, b api.Block, taken, l []api.Spent) {
	t.Helper()
	was, wasTaken := block.Clone(b), slices.Clone(taken)
	if err := conn.Back(s, b, taken); err != nil {
		t.Errorf("%s: Back: %v", what, err)
	}
	if !sameSet(t, s, l) {
		t.Errorf("%s: behind Back the coins are %d, not these %d", what, s.Len(), len(l))
	}
	if !block.Same(b, was) || !slices.Equal(taken, wasTaken) {
		t.Errorf("%s: what is handed to Back was changed", what)
	}
}
