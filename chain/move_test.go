package chain_test

import (
	"slices"
	"testing"

	"sargasso/api"
	"sargasso/block"
	"sargasso/chain"
	"sargasso/spend"
	"sargasso/tx"
)

// P17.1: what stands on the tip is put on, whatever its work is.
func TestMoveUp(t *testing.T) {
	c, m := begin(t, rules(3, 2))
	p := block.Start()
	for n, work := range []uint32{1, 1 << 24, 1, 7, 1, 1, 2, 1, 1, 1, 1, 1, 5} {
		p = on(p, work, n)
		sendAll(t, c, m, p)
		if c.Tip() != block.ID(p) || c.Height() != n+1 || c.Coins().Len() != n+1 {
			t.Errorf("the tip is %x, of height %d, %d coins", c.Tip(), c.Height(), c.Coins().Len())
		}
	}
}

// P17.1: what stands beside is kept, and does nothing, until its branch has more work; then what is above both their common one is taken back, the tip first, and the others are put on.
func TestMoveOver(t *testing.T) {
	for stem := range 4 {
		for back := 1; back < 5; back++ {
			for many := 1; many < 5; many++ {
				c, m := begin(t, rules(100, 0))
				low := row(block.Start(), 3, 1, stem)
				from := up([]api.Block{block.Start()}, low...)[stem]
				a, b := row(from, 12, 10, back), row(from, 1, 20, many)
				b[many-1] = changed(b[many-1], func(b *api.Block) { b.Head.Work = uint32(12*back + 1) })
				sendAll(t, c, m, low...)
				sendAll(t, c, m, a...)
				keep(t, c, m, b[:many-1]...)
				send(t, "of more work", c, m, b[many-1], fails(nil), down(a), b)
				if c.Height() != stem+many || c.Coins().Len() != stem+many {
					t.Errorf("height %d, %d coins", c.Height(), c.Coins().Len())
				}
				next := on(a[back-1], 100, 30)
				send(t, "back again", c, m, next, fails(nil), down(b), up(a, next))
			}
		}
	}
}

// P17.1: it is work that counts, not height: one block can take the place of many, and many that of one.
func TestMoveByWork(t *testing.T) {
	c, m := begin(t, rules(100, 1))
	many, one := row(block.Start(), 1, 1, 20), on(block.Start(), 25, 30)
	sendAll(t, c, m, many...)
	send(t, "one of more work", c, m, one, fails(nil), down(many), []api.Block{one})
	more := row(many[19], 3, 40, 2)
	keep(t, c, m, more[0])
	send(t, "of more work again", c, m, more[1], fails(nil), []api.Block{one}, up(many, more...))
}

// P17.1: of as much work the least id is the best, in whatever order they come.
func TestMoveOfAsMuchWork(t *testing.T) {
	s := block.Start()
	l := byID(on(s, 9, 1), on(s, 9, 2), on(s, 9, 3))
	for _, order := range [][]int{{0, 1, 2}, {0, 2, 1}, {1, 0, 2}, {1, 2, 0}, {2, 0, 1}, {2, 1, 0}} {
		c, m := begin(t, rules(100, 1))
		tip := order[0]
		sendAll(t, c, m, l[tip])
		for _, n := range order[1:] {
			if n > tip {
				keep(t, c, m, l[n])
				continue
			}
			send(t, "of a lesser id", c, m, l[n], fails(nil), l[tip:tip+1], l[n:n+1])
			tip = n
		}
		if c.Tip() != block.ID(l[0]) {
			t.Errorf("%v: the tip is %x", order, c.Tip())
		}
	}
}

// P17.1: so it is where one of both stands higher.
func TestMoveOfAsMuchWorkAndAnotherHeight(t *testing.T) {
	low := on(block.Start(), 4, 1)
	lesser := map[bool]int{}
	for n := range 20 {
		one, two := on(block.Start(), 9, 100+n), on(low, 5, 200+n)
		first := block.Same(byID(one, two)[0], one)
		lesser[first]++
		c, m := begin(t, rules(100, 1))
		sendAll(t, c, m, low, two)
		d, k := begin(t, rules(100, 1))
		sendAll(t, d, k, one)
		keep(t, d, k, low)
		if first {
			send(t, "one", c, m, one, fails(nil), []api.Block{two, low}, []api.Block{one})
			keep(t, d, k, two)
		} else {
			keep(t, c, m, one)
			send(t, "two", d, k, two, fails(nil), []api.Block{one}, []api.Block{low, two})
		}
		if c.Tip() != d.Tip() || c.Coins().Sum() != d.Coins().Sum() {
			t.Error("two orders, two tips")
		}
	}
	if len(lesser) < 2 {
		t.Errorf("too few to tell anything: %v", lesser)
	}
}

// P17.1: coins go with the branch: what one spends is there on the other one, which can spend it another way.
func TestMoveCoins(t *testing.T) {
	c, m := begin(t, rules(100, 0))
	low := row(block.Start(), 3, 1, 2)
	x := pay(low[0], 900, 50)
	y, z := payOn(x, 50, 800, 51), payOn(x, 50, 100, 52)
	a := changed(on(low[1], 10, 10, x), func(b *api.Block) { b.Txs[0].Outs[0].Value = coinbase + 100 })
	a2 := on(a, 10, 11, y)
	sendAll(t, c, m, up(low, a, a2)...)
	expectCoins(t, c, made(low[1].Txs[0], 2), made(a.Txs[0], 3), made(a2.Txs[0], 4), made(y, 4))
	b := on(low[1], 10, 20, x, z)
	b2 := on(b, 11, 21, pay(low[1], 7, 53))
	keep(t, c, m, b)
	send(t, "the other branch", c, m, b2, fails(nil), []api.Block{a2, a}, []api.Block{b, b2})
	expectCoins(t, c, made(b.Txs[0], 3), made(b2.Txs[0], 4), made(z, 3), made(b2.Txs[1], 4))
	mark(t, "spent by another one", c, m, on(b2, 1, 22, y), fails(api.ErrMissing, 1, 0))
	a3 := on(a2, 2, 12, pay(a2, 4, 54))
	send(t, "back again", c, m, a3, fails(nil), []api.Block{b2, b}, []api.Block{a, a2, a3})
	expectCoins(t, c, made(low[1].Txs[0], 2), made(a.Txs[0], 3), made(y, 4), made(a3.Txs[0], 5), made(a3.Txs[1], 5))
}

// made is the coin of t's first Out, put on at a height.
func made(t api.Tx, height int) api.Spent {
	c := api.Money{Value: t.Outs[0].Value, Lock: t.Outs[0].Lock, Height: height, Base: spend.IsNull(t.Ins[0].From)}
	return api.Spent{At: api.Point{Tx: tx.ID(t)}, Coin: c}
}

// expectCoins asks that c has these coins, in whatever order.
func expectCoins(t *testing.T, c *chain.Chain, want ...api.Spent) {
	t.Helper()
	got := c.Coins()
	for _, x := range want {
		if coin, is := got.Get(x.At); !is || coin != x.Coin {
			t.Errorf("a coin is %v, %v, not %v", coin, is, x.Coin)
		}
	}
	if got.Len() != len(want) {
		t.Errorf("%d coins, not %d", got.Len(), len(want))
	}
}

// P17.1: pasts go with the branch: locks by time count from the branch that a block stands on.
func TestMovePasts(t *testing.T) {
	c, m := begin(t, rules(100, 0))
	slow := row(block.Start(), 10, 1, 6)
	var fast []api.Block
	for n, p := 0, block.Start(); n < 6; n++ {
		p = changed(on(p, 10, 20+n), func(b *api.Block) { b.Head.Time += 512 })
		fast = append(fast, p)
	}
	fast[5] = changed(fast[5], func(b *api.Block) { b.Head.Work++ })
	sendAll(t, c, m, slow...)
	keep(t, c, m, fast[:5]...)
	send(t, "the fast one", c, m, fast[5], fails(nil), down(slow), fast)
	mark(t, "too early on the fast one", c, m, on(fast[5], 1, 30, with(pay(fast[4], 1, 9), api.ByTime|2)), fails(api.ErrEarly, 1))
	late := on(fast[5], 1, 31, with(pay(fast[0], 1, 9), api.ByTime|2))
	sendAll(t, c, m, late)
	next := on(slow[5], 50, 32)
	send(t, "the slow one", c, m, next, fails(nil), down(up(fast, late)), up(slow, next))
	mark(t, "too early on the slow one", c, m, on(next, 1, 33, with(pay(slow[0], 1, 9), api.ByTime|2)), fails(api.ErrEarly, 1))
	sendAll(t, c, m, on(next, 1, 34, with(pay(slow[0], 1, 9), api.ByTime|0)))
}

// claims is b, whose first transaction makes so much.
func claims(b api.Block, value uint64) api.Block {
	return changed(b, func(b *api.Block) { b.Txs[0].Outs[0].Value = value })
}

// P17.1: the rules hold on each branch: the reward goes down by Halving, what a first transaction made ripens by Maturity.
func TestMoveRules(t *testing.T) {
	const half, quarter = 25 * api.Coin, 25 * api.Coin / 2
	c, m := begin(t, rules(2, 3))
	a1 := claims(on(block.Start(), 5, 1), 2*half)
	a2 := claims(on(a1, 5, 2), half)
	a3 := claims(on(a2, 5, 3), half)
	sendAll(t, c, m, a1, a2, a3)
	mark(t, "more than the reward", c, m, claims(on(a3, 5, 10), quarter+1), fails(api.ErrReward))
	mark(t, "too young", c, m, on(a3, 5, 11, pay(a2, 3, 9)), fails(api.ErrYoung, 1, 0))
	a4 := claims(on(a3, 5, 12, pay(a1, 2*half-7, 9)), quarter+7)
	sendAll(t, c, m, a4)
	b2 := claims(on(a1, 5, 13), half)
	keep(t, c, m, b2)
	mark(t, "more than the reward, beside", c, m, claims(on(b2, 100, 14), half+1), fails(api.ErrReward))
	mark(t, "too young, beside", c, m, on(b2, 100, 15, pay(a1, 3, 9)), fails(api.ErrYoung, 1, 0))
	b3 := claims(on(b2, 100, 16), half)
	send(t, "the reward", c, m, b3, fails(nil), []api.Block{a4, a3, a2}, []api.Block{b2, b3})
}

// P17.1, P0.4: the way's blocks are new memory, each one.
func TestMoveIsNewMemory(t *testing.T) {
	c, m := begin(t, rules(100, 0))
	a, b := row(block.Start(), 10, 1, 3), row(block.Start(), 11, 11, 3)
	a = append(a, on(a[2], 50, 20, pay(a[0], 7, 9)))
	var last chain.Move
	for _, x := range []api.Block{a[0], b[0], a[1], b[1], a[2], b[2], a[3]} {
		m.submit(block.Bytes(x))
		way, err := c.Submit(block.Bytes(x))
		if err != nil {
			t.Fatal(err)
		}
		spoilAll(last.Back)
		spoilAll(last.On)
		expect(t, "the way of one before is spoilt", c, m)
		last = way
	}
	want := up(down(b), a...)
	all := up(last.Back, last.On...)
	for i := range all {
		if !same(all[i:], want[i:]) {
			t.Errorf("those from number %d on are others, or spoilt by those ahead", i)
		}
		spoil(all[i])
	}
	again := slices.Clone(last.On)
	spoilAll(last.Back)
	if !slices.EqualFunc(again, last.On, func(x, y api.Block) bool { return x.Head == y.Head }) {
		t.Error("Back and On share memory")
	}
	expect(t, "spoilt", c, m)
}
