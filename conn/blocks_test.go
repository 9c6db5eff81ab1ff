package conn_test

import (
	"slices"
	"testing"

	"sargasso/api"
	"sargasso/conn"
)

// purse are the coins that a block's next transaction may spend, and the number of each one's key.
type purse struct {
	coins []api.Spent
	keys  map[api.Hash]int
}

// add lays t's Outs, put on at a height, beside the others.
func (p *purse) add(t api.Tx, height int) {
	p.coins = append(p.coins, made(t, height)...)
}

// take is one of the coins, which is gone then, as a rule.
func (p *purse) take(r *turns) api.Spent {
	i := r.below(len(p.coins))
	c := p.coins[i]
	if !r.rarely(40) {
		p.coins = slices.Delete(p.coins, i, i+1)
	}
	return c
}

// someTx spends one or two coins of the purse, or now and then one that is not there, and pays most of them.
func someTx(r *turns, p *purse, pasts []uint32) api.Tx {
	t, sum := api.Tx{Version: uint32(1 + r.below(2))}, 0
	if r.rarely(5) {
		t.Time = r.time(pasts)
	}
	for range 1 + r.below(2) {
		if len(p.coins) == 0 {
			break
		}
		c := p.take(r)
		sum += int(c.Coin.Value)
		in := api.In{From: c.At, Key: key(p.keys[c.Coin.Lock]), Seq: pick(r, api.Final, api.Final, api.Final, r.seq())}
		if r.rarely(60) {
			in.Key = key(999)
		}
		if r.rarely(60) {
			in.From.N += 7
		}
		t.Ins = append(t.Ins, in)
	}
	sum = max(0, sum-pick(r, 0, r.below(5), sum/4, sum, -r.below(3)))
	for range r.below(3) {
		part := r.below(sum + 1)
		sum -= part
		t.Outs = append(t.Outs, api.Out{Value: uint64(part), Lock: someLock(r, p)})
	}
	t.Outs = append(t.Outs, api.Out{Value: uint64(sum), Lock: someLock(r, p)})
	return t
}

// someLock is one that a key of the purse opens.
func someLock(r *turns, p *purse) api.Hash {
	n := r.below(30)
	lock := coin(n, 0, 0).Lock
	p.keys[lock] = n
	return lock
}

// someBlock is one on top of pasts, over the coins that stand there; as a rule it may stand there.
func someBlock(r *turns, have []api.Spent, pasts []uint32, keys map[api.Hash]int, rules api.Rules) api.Block {
	p, height := &purse{slices.Clone(have), keys}, len(pasts)
	claim := modelReward(height, rules.Halving)
	head := first(height, claim)
	head.Outs[0].Lock = someLock(r, p)
	if r.rarely(30) {
		head.Ins[0].Key[r.below(4)]++
	}
	if r.rarely(3) {
		head.Outs = append(head.Outs, api.Out{Value: uint64(r.below(3)), Lock: someLock(r, p)})
	}
	if r.rarely(3) {
		head.Outs[0].Value -= min(claim, uint64(r.below(30)))
	}
	txs := []api.Tx{head}
	p.add(head, height)
	for range r.below(5) {
		x := someTx(r, p, pasts)
		txs = append(txs, x)
		p.add(x, height)
	}
	b := of(pasts, txs...)
	if r.rarely(30) {
		b.Head.Time = uint32(int(pasts[height-1]) - r.below(2))
	}
	return b
}

// someRules are ones of small numbers.
func someRules(r *turns) api.Rules {
	return api.Rules{Halving: pick(r, 0, 1, 2, 3, 30), Maturity: r.below(4)}
}

// someSet are a few coins of any height, the number of their keys noted.
func someSet(r *turns, height int, keys map[api.Hash]int) (l []api.Spent) {
	for n := range 1 + r.below(9) {
		c := r.coin(n, height)
		keys[c.Lock] = n
		l = append(l, api.Spent{At: at(n), Coin: c})
	}
	return l
}

// P16.2: rows of blocks, each on what the one ahead left, held against the model, and taken back again, the last one first.
func TestBlocksAgainstTheModel(t *testing.T) {
	seen := map[error]int{}
	for round := range 1500 {
		r := &turns{uint32(round)}
		rules, keys := someRules(r), map[api.Hash]int{}
		pasts := r.pasts(1 + r.below(7))
		have := someSet(r, len(pasts), keys)
		s := setOf(t, have)
		was := s.Sum()
		var row []api.Block
		var taken [][]api.Spent
		for range 5 {
			b := someBlock(r, have, pasts, keys, rules)
			if r.rarely(20) {
				x := b.Txs[r.below(len(b.Txs))]
				have = append(have, api.Spent{At: out(x, r.below(len(x.Outs))), Coin: coin(r.below(9), 5, 0)})
				s = setOf(t, have)
				was, row, taken = s.Sum(), nil, nil
			}
			want := modelBlock(have, b, pasts, rules)
			seen[want.fault.err]++
			expectBlock(t, "of a row", want, have, b, pasts, rules)
			if want.fault.err != nil {
				continue
			}
			if _, _, err := conn.Block(s, b, len(pasts), pasts, rules); err != nil {
				t.Fatal(err)
			}
			row, taken, have = append(row, b), append(taken, want.taken), want.left
			pasts = append(pasts, pasts[len(pasts)-1]+uint32(r.below(700)))
		}
		for i := range row {
			last := len(row) - 1 - i
			if err := conn.Back(s, row[last], taken[last]); err != nil {
				t.Fatal(err)
			}
		}
		if s.Sum() != was {
			t.Errorf("round %d: a row taken back leaves other coins", round)
		}
		if t.Failed() {
			t.Fatalf("round %d", round)
		}
	}
	for _, err := range []error{nil, api.ErrTime, api.ErrBase, api.ErrMissing, api.ErrYoung, api.ErrKey, api.ErrValue, api.ErrLess, api.ErrEarly, api.ErrReward, api.ErrTwice} {
		if seen[err] < 20 {
			t.Errorf("too few of %v: %v", err, seen)
		}
	}
}

// P16.2: Back is undo.Unapply: its errors go up, around a transaction's place, and nothing is changed.
func TestBackErrors(t *testing.T) {
	pasts, have := tens(9), plain(6).all()
	a := pay(150, 1, 2)
	b := of(pasts, first(9, 5), a, spending(pay(80, 3), a, 0), pay(40, 4))
	rules := api.Rules{Halving: 100}
	s := setOf(t, have)
	taken, _, err := conn.Block(s, b, 9, pasts, rules)
	if err != nil {
		t.Fatal(err)
	}
	left := s.All()
	expectFault := func(what string, have, taken []api.Spent, want fault) {
		t.Helper()
		s := setOf(t, have)
		err := conn.Back(s, b, taken)
		if f := faultOf(err); f != want {
			t.Errorf("%s: %v, not %v", what, f, want)
		}
		if !sameSet(t, s, have) {
			t.Errorf("%s: the coins were changed", what)
		}
	}
	for i, x := range b.Txs {
		if i == 1 {
			continue // its Out is spent within the block
		}
		expectFault("an Out is not there", without(left, out(x, 0)), taken, fails(api.ErrMissing, i))
		other := slices.Clone(left)
		other[slices.IndexFunc(other, func(c api.Spent) bool { return c.At == out(x, 0) })].Coin.Value++
		expectFault("another coin stands there", other, taken, fails(api.ErrShape, i))
	}
	expectFault("nothing was put on", have, taken, fails(api.ErrMissing, 3))
	expectFault("what was taken is none", left, nil, fails(api.ErrShape, 3))
	expectFault("what was taken lacks the first", left, taken[1:], fails(api.ErrShape, 1))
	expectFault("what was taken lacks the last", left, taken[:len(taken)-1], fails(api.ErrShape, 3))
	expectFault("more was taken", left, append([]api.Spent{{At: at(50)}}, taken...), fails(api.ErrShape, 0))
	expectFault("what was taken is there", append(slices.Clone(left), api.Spent{At: at(3)}), taken, fails(api.ErrTwice, 2))
	expectBack(t, "as it was taken", s, b, taken, have)
}

// P16.2: Back asks nothing else of the block: neither block.Check nor its place in the branch.
func TestBackAsksNothingElse(t *testing.T) {
	s := setOf(t, plain(2).all())
	for _, b := range []api.Block{{}, {Txs: []api.Tx{}}, {Txs: []api.Tx{{}, {}}}} {
		expectBack(t, "of nothing", s, b, nil, plain(2).all())
	}
	x := pay(150, 0, 1)
	s = setOf(t, made(x, 3))
	expectBack(t, "no first one", s, api.Block{Txs: []api.Tx{x}}, plain(2).all(), plain(2).all())
}

// P0.4, P16.2: sets stand for themselves, and what was taken is the caller's.
func TestTakenIsTheCallers(t *testing.T) {
	pasts, have := tens(9), plain(3).all()
	b := of(pasts, first(9, 5), pay(150, 1, 2))
	s, other := setOf(t, have), setOf(t, have)
	taken, _, err := conn.Block(s, b, 9, pasts, api.Rules{})
	if err != nil {
		t.Fatal(err)
	}
	left, mine := s.Sum(), slices.Clone(taken)
	clear(append(taken, api.Spent{}))
	clear(taken)
	if s.Sum() != left || !sameSet(t, other, have) {
		t.Error("what is written into what was taken is seen")
	}
	expectBack(t, "by a copy", s, b, mine, have)
}
