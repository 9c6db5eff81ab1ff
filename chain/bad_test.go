package chain_test

import (
	"math"
	"slices"
	"testing"

	"sargasso/api"
	"sargasso/block"
	"sargasso/tx"
)

// wrong is a change by which a block can't be put on, and why.
type wrong struct {
	what string
	put  func(b *api.Block)
	want fault
}

// wrongs are changes for a block behind l, or beside its last one, where Maturity is 2.
func wrongs(l []api.Block) []wrong {
	adds := func(txs ...api.Tx) func(b *api.Block) {
		return func(b *api.Block) { b.Txs = append(b.Txs, txs...) }
	}
	both := api.Tx{Version: 2, Ins: slices.Concat(pay(l[0], 1, 9).Ins, pay(l[1], 1, 9).Ins), Outs: []api.Out{{Value: 5}}}
	badKey, missing := tx.Clone(both), tx.Clone(both)
	badKey.Ins[1].Key[0]++
	missing.Ins[1].From.N = 1
	late := with(pay(l[0], 1, 9), 0)
	late.Time = math.MaxUint32
	return []wrong{
		{"another height", func(b *api.Block) { b.Txs[0].Ins[0].Key[0]++ }, fails(api.ErrBase)},
		{"another height, far", func(b *api.Block) { b.Txs[0].Ins[0].Key[3]++ }, fails(api.ErrBase)},
		{"no such coin", adds(pay(l[2], 5, 9), missing), fails(api.ErrMissing, 2, 1)},
		{"a coin of the start", adds(spending(block.Start().Txs[0], nil, 0, 9)), fails(api.ErrMissing, 1, 0)},
		{"one that comes behind", adds(payOn(pay(l[0], 5, 9), 9, 1, 9), pay(l[0], 5, 9)), fails(api.ErrMissing, 1, 0)},
		{"a wrong key", adds(badKey), fails(api.ErrKey, 1, 1)},
		{"too much", adds(pay(l[1], 5, 9), pay(l[0], coinbase+1, 9)), fails(api.ErrLess, 2)},
		{"too early", adds(with(pay(l[0], 5, 9), 60000)), fails(api.ErrEarly, 1)},
		{"too early by its Time", adds(late), fails(api.ErrEarly, 1)},
		{"more than the reward", func(b *api.Block) { b.Txs[0].Outs[0].Value = 50*api.Coin + 1 }, fails(api.ErrReward)},
	}
}

// P17.1: one on the tip that can't be put on is marked, and its error is the answer; all stays as it was.
func TestBadOnTheTip(t *testing.T) {
	l := row(block.Start(), 5, 1, 4)
	young := wrong{"too young", func(b *api.Block) { b.Txs = append(b.Txs, pay(l[3], 5, 9)) }, fails(api.ErrYoung, 1, 0)}
	for _, x := range append(wrongs(l), young) {
		c, m := begin(t, rules(100, 2))
		sendAll(t, c, m, l...)
		b := changed(on(l[3], 5, 10), x.put)
		mark(t, x.what, c, m, b, x.want)
		if c.Tip() != block.ID(l[3]) || c.Height() != 4 || !slices.Equal(c.Bad(), idsOf([]api.Block{b})) || c.Coins().Len() != 4 {
			t.Errorf("%s: the tip is %x, Bad %x", x.what, c.Tip(), c.Bad())
		}
		refuse(t, x.what+", again", c, m, b, fails(api.ErrKnown))
		refuse(t, x.what+", one on it", c, m, on(b, 5, 11), fails(api.ErrInvalid))
		sendAll(t, c, m, on(l[3], 1, 12, pay(l[0], 5, 9)))
	}
}

// P17.1: one that would overtake the tip, but can't be put on, is marked, and its error is the answer: what was taken back for it is there again, what was put on is not.
func TestBadOnAnotherBranch(t *testing.T) {
	low := row(block.Start(), 5, 1, 4)
	for back := 1; back < 4; back++ {
		for many := 1; many < 4; many++ {
			for _, x := range wrongs(low) {
				c, m := begin(t, rules(100, 2))
				a, b := row(low[3], 50, 20, back-1), row(low[3], 1, 30, many-1)
				spends := on(up(low, a...)[back+2], 50, 25, pay(low[0], 1, 9))
				a = append(a, spends)
				last := changed(on(up(low, b...)[many+2], 1000, 35), x.put)
				sendAll(t, c, m, low...)
				sendAll(t, c, m, a...)
				keep(t, c, m, b...)
				mark(t, x.what, c, m, last, x.want)
				if c.Tip() != block.ID(spends) || !slices.Equal(c.Bad(), idsOf([]api.Block{last})) {
					t.Errorf("%s: the tip is %x, Bad %x", x.what, c.Tip(), c.Bad())
				}
				mark(t, x.what+", then one that spends again", c, m, on(spends, 1, 40, pay(low[0], 3, 9)), fails(api.ErrMissing, 1, 0))
				sendAll(t, c, m, on(spends, 1, 41, payOn(spends.Txs[1], 9, 1, 9)))
			}
		}
	}
}

// P17.1: a bad one of a branch beside comes to light behind one that overtakes the tip: it and all on it are marked, and the answer is ErrInvalid; what is below it is not.
func TestBadComesToLight(t *testing.T) {
	a := row(block.Start(), 20, 1, 4)
	for bad := range 4 {
		for _, x := range wrongs(a[:3]) {
			c, m := begin(t, rules(100, 2))
			sendAll(t, c, m, a...)
			b := []api.Block{a[2]}
			for n := 1; n < 5; n++ {
				next := onAt(b[n-1], 3+n, 1, 30+n)
				if n == bad+1 {
					next = changed(next, x.put)
				}
				b = append(b, next)
			}
			b = b[1:]
			keep(t, c, m, b...)
			fork := onAt(b[bad], 5+bad, 1, 50)
			keep(t, c, m, fork)
			last := onAt(b[3], 8, 30, 60)
			send(t, x.what, c, m, last, fails(api.ErrInvalid), nil, nil)
			all := byID(up(b[bad:], fork, last)...)
			if !slices.Equal(c.Bad(), idsOf(all)) || c.Tip() != block.ID(a[3]) {
				t.Errorf("%s: Bad %x, the tip %x", x.what, c.Bad(), c.Tip())
			}
			for _, y := range all {
				refuse(t, "on a marked one", c, m, onAt(y, 9, 1<<24, 70), fails(api.ErrInvalid))
			}
			if bad > 0 {
				next := on(b[bad-1], 100, 80)
				send(t, "on the one below", c, m, next, fails(nil), a[3:], up(b[:bad], next))
			}
		}
	}
}

// P17.1: one that can't be put on is not found out, and does no harm, as long as its branch is not the best; others are taken in on it.
func TestBadBeside(t *testing.T) {
	c, m := begin(t, rules(100, 2))
	a := row(block.Start(), 100, 1, 4)
	sendAll(t, c, m, a...)
	for n, x := range wrongs(a) {
		b := changed(on(a[2], 1, 10+n), x.put)
		keep(t, c, m, b, on(b, 1, 30+n))
	}
	if len(c.Bad()) != 0 {
		t.Errorf("Bad: %x", c.Bad())
	}
}

// P17.1: of several that are bad on one way the lowest is marked, with all on it.
func TestBadOfSeveral(t *testing.T) {
	c, m := begin(t, rules(100, 0))
	a := row(block.Start(), 50, 1, 2)
	sendAll(t, c, m, a...)
	none := spending(a[0].Txs[0], key(1), 5, 9)
	none.Ins[0].From.N = 7
	b1 := on(a[0], 1, 10)
	b2 := on(b1, 1, 11, none)
	b3 := on(b2, 1, 12, payOn(none, 9, 5, 9), pay(b1, coinbase+1, 9))
	keep(t, c, m, b1, b2, b3)
	b4 := on(b3, 100, 13, none)
	send(t, "above two that are bad", c, m, b4, fails(api.ErrInvalid), nil, nil)
	if !slices.Equal(c.Bad(), idsOf(byID(b2, b3, b4))) {
		t.Errorf("Bad: %x", c.Bad())
	}
	x := on(b1, 100, 14, none)
	mark(t, "the new one itself", c, m, x, fails(api.ErrMissing, 1, 0))
	if !slices.Equal(c.Bad(), idsOf(byID(b2, b3, b4, x))) {
		t.Errorf("Bad: %x", c.Bad())
	}
}

// P17.1: a branch whose upper part was marked goes on below that, and can be the best again.
func TestBadThenBest(t *testing.T) {
	c, m := begin(t, rules(100, 1))
	a, b := row(block.Start(), 10, 1, 3), row(block.Start(), 6, 11, 3)
	sendAll(t, c, m, a...)
	keep(t, c, m, b...)
	mark(t, "on the other branch", c, m, on(b[2], 100, 20, pay(a[0], 1, 9)), fails(api.ErrMissing, 1, 0))
	mark(t, "on the tip", c, m, on(a[2], 100, 20, pay(b[0], 1, 9)), fails(api.ErrMissing, 1, 0))
	x := on(b[2], 13, 21, pay(b[0], 1, 9))
	send(t, "more work", c, m, x, fails(nil), down(a), up(b, x))
	young := changed(on(a[2], 50, 22, pay(a[2], 1, 9)), func(b *api.Block) { b.Txs = append(b.Txs, payOn(b.Txs[0], 22, 1, 9)) })
	mark(t, "on the branch that was left", c, m, young, fails(api.ErrYoung, 2, 0))
	y := on(a[2], 50, 23, pay(a[1], 1, 9))
	send(t, "more work again", c, m, y, fails(nil), down(up(b, x)), up(a, y))
}

// P17.1: one transaction can stand on each of two branches, and again on the one that it was taken back from, but not twice on one.
func TestBadTwiceOnOneBranch(t *testing.T) {
	c, m := begin(t, rules(100, 0))
	low := on(block.Start(), 1, 1)
	x := pay(low, 10, 9)
	a, b := on(low, 5, 2, x), on(low, 6, 3, x)
	sendAll(t, c, m, low, a)
	mark(t, "twice", c, m, on(a, 5, 4, x), fails(api.ErrMissing, 1, 0))
	send(t, "on another branch", c, m, b, fails(nil), []api.Block{a}, []api.Block{b})
	next := on(a, 9, 5)
	send(t, "back again", c, m, next, fails(nil), []api.Block{b}, []api.Block{a, next})
	expectCoins(t, c, made(x, 2), made(a.Txs[0], 2), made(next.Txs[0], 3))
	mark(t, "twice again", c, m, on(next, 5, 6, x), fails(api.ErrMissing, 1, 0))
}
