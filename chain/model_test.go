package chain_test

import (
	"bytes"
	"maps"
	"slices"
	"testing"

	"sargasso/api"
	"sargasso/block"
	"sargasso/chain"
	"sargasso/coins"
	"sargasso/conn"
	"sargasso/spend"
	"sargasso/tx"
)

// model is what a chain should show: it knows all blocks, those that are marked, and the tip, and works out all else from the start on, each time.
type model struct {
	rules      api.Rules
	start, tip api.Hash
	blocks     map[api.Hash]api.Block
	bad        map[api.Hash]bool
}

// modelOf is a model of the start alone.
func modelOf(r api.Rules) *model {
	b := block.Start()
	id := block.ID(b)
	return &model{rules: r, start: id, tip: id, blocks: map[api.Hash]api.Block{id: b}, bad: map[api.Hash]bool{}}
}

// branch are the ids from the start up to id.
func (m *model) branch(id api.Hash) (l []api.Hash) {
	for id != m.start {
		l = append(l, id)
		id = m.blocks[id].Head.Prev
	}
	l = append(l, m.start)
	slices.Reverse(l)
	return l
}

// pasts are those of the blocks up to id.
func (m *model) pasts(id api.Hash) (l []uint32) {
	var times []uint32
	for _, x := range m.branch(id) {
		times = append(times, m.blocks[x].Head.Time)
		last := slices.Sorted(slices.Values(times[max(0, len(times)-11):]))
		l = append(l, last[len(last)/2])
	}
	return l
}

// work is that of all blocks up to id.
func (m *model) work(id api.Hash) (sum int) {
	for _, x := range m.branch(id) {
		sum += int(m.blocks[x].Head.Work)
	}
	return sum
}

// best is the one of most work of those that are not marked, of as much work the least.
func (m *model) best() (top api.Hash) {
	work := -1
	for id := range m.blocks {
		if m.bad[id] {
			continue
		}
		w := m.work(id)
		if w > work || w == work && bytes.Compare(id[:], top[:]) < 0 {
			top, work = id, w
		}
	}
	return top
}

// leaves are the coins behind the blocks up to id; or the first one that can't stand there, and why.
func (m *model) leaves(id api.Hash) (*coins.Set, api.Hash, error) {
	s := &coins.Set{}
	for height, x := range m.branch(id) {
		if height == 0 {
			continue
		}
		b := m.blocks[x]
		if _, _, err := conn.Block(s, b, height, m.pasts(b.Head.Prev), m.rules); err != nil {
			return nil, x, err
		}
	}
	return s, api.Hash{}, nil
}

// refuses is why x is not taken in.
func (m *model) refuses(b api.Block) error {
	if err := block.Check(b); err != nil {
		return err
	}
	prev := b.Head.Prev
	if _, is := m.blocks[block.ID(b)]; is {
		return api.ErrKnown
	}
	if _, is := m.blocks[prev]; !is {
		return api.ErrParent
	}
	if m.bad[prev] {
		return api.ErrInvalid
	}
	if pasts := m.pasts(prev); b.Head.Time <= pasts[len(pasts)-1] {
		return api.ErrTime
	}
	if len(m.blocks) == 4096 {
		return api.ErrFull
	}
	return nil
}

// submit is what Submit should do.
func (m *model) submit(x []byte) (chain.Move, fault) {
	b, err := block.Read(x)
	if err == nil {
		err = m.refuses(b)
	}
	if err != nil {
		return chain.Move{}, faultOf(err)
	}
	id, was, why := block.ID(b), m.tip, error(nil)
	m.blocks[id] = b
	for m.tip != m.best() {
		_, at, err := m.leaves(m.best())
		if err == nil {
			m.tip = m.best()
			continue
		}
		for other := range m.blocks {
			if slices.Contains(m.branch(other), at) {
				m.bad[other] = true
			}
		}
		if at == id {
			why = err
		}
	}
	if why == nil && m.bad[id] {
		why = api.ErrInvalid
	}
	return m.way(was, m.tip), faultOf(why)
}

// way is the one from a to b.
func (m *model) way(a, b api.Hash) (way chain.Move) {
	from, to := m.branch(a), m.branch(b)
	for len(from) > 0 && len(to) > 0 && from[0] == to[0] {
		from, to = from[1:], to[1:]
	}
	for _, id := range slices.Backward(from) {
		way.Back = append(way.Back, m.blocks[id])
	}
	for _, id := range to {
		way.On = append(way.On, m.blocks[id])
	}
	return way
}

// expect asks that c shows what m does.
func expect(t *testing.T, what string, c *chain.Chain, m *model) {
	t.Helper()
	branch, pasts := m.branch(m.tip), m.pasts(m.tip)
	if c.Tip() != m.tip || c.Height() != len(branch)-1 || c.Past() != pasts[len(pasts)-1] {
		t.Errorf("%s: the tip is %x, of height %d, past %d, not %x, %d, %d", what, c.Tip(), c.Height(), c.Past(), m.tip, len(branch)-1, pasts[len(pasts)-1])
	}
	if got := c.Branch(); !slices.Equal(got, branch) {
		t.Errorf("%s: Branch is %x, not %x", what, got, branch)
	}
	if got := c.Pasts(); !slices.Equal(got, pasts) {
		t.Errorf("%s: Pasts are %v, not %v", what, got, pasts)
	}
	s, _, err := m.leaves(m.tip)
	if err != nil {
		t.Fatalf("%s: the model's tip can't be: %v", what, err)
	}
	if got := c.Coins(); !slices.Equal(got.All(), s.All()) {
		t.Errorf("%s: the coins are %d, not these %d", what, got.Len(), s.Len())
	}
	bad := slices.SortedFunc(maps.Keys(m.bad), func(a, b api.Hash) int { return bytes.Compare(a[:], b[:]) })
	if got := c.Bad(); !slices.Equal(got, bad) {
		t.Errorf("%s: Bad are %x, not %x", what, got, bad)
	}
	expectBlocks(t, what, c, m, branch)
}

// expectBlocks asks for Block and On of all that are there, and of others.
func expectBlocks(t *testing.T, what string, c *chain.Chain, m *model, branch []api.Hash) {
	t.Helper()
	none := []api.Hash{{}, someHash(1), someHash(2)}
	for id, b := range m.blocks {
		if got, is := c.Block(id); !is || !block.Same(got, b) {
			t.Errorf("%s: Block of %x: %v, or another one", what, id, is)
		}
		if is := slices.Contains(branch, id); c.On(id) != is {
			t.Errorf("%s: On of %x: not %v", what, id, is)
		}
		none = append(none, tx.ID(b.Txs[0]), b.Head.Root)
		first, last := id, id
		first[0] ^= 0x80
		last[31] ^= 1
		none = append(none, first, last)
	}
	for _, id := range none {
		got, is := c.Block(id)
		if is || got.Head != (api.Head{}) || len(got.Txs) > 0 || c.On(id) {
			t.Errorf("%s: of %x, which is not there, Block is %v, %v, On %v", what, id, got, is, c.On(id))
		}
	}
}

// turns are numbers that look like chance, always the same ones.
type turns struct{ next uint32 }

// below is a number below n.
func (r *turns) below(n int) int {
	r.next = r.next*1664525 + 1013904223
	return int(r.next>>8) % n
}

// rarely is true once in n times.
func (r *turns) rarely(n int) bool {
	return r.below(n) == 0
}

// pick is one of l.
func pick[T any](r *turns, l ...T) T {
	return l[r.below(len(l))]
}

// maker makes blocks, for the most part right ones.
type maker struct {
	turns
	model *model
	made  []api.Block      // all, in order
	keys  map[api.Hash]int // by locks
	last  int              // number of the last key
}

// lock is a new one.
func (k *maker) lock() api.Hash {
	k.last++
	l := spend.Lock(key(k.last))
	k.keys[l] = k.last
	return l
}

// parent is for the most part a late one that was taken in, and is not marked.
func (k *maker) parent() api.Block {
	for {
		b := k.made[len(k.made)-1-k.below(min(len(k.made), 15))]
		id := block.ID(b)
		if _, is := k.model.blocks[id]; is && !k.model.bad[id] || k.rarely(20) {
			return b
		}
	}
}

// coinsOf are for the most part the coins that a block on p can spend: those that its branch leaves; or else those of the tip's.
func (k *maker) coinsOf(p api.Block) []api.Spent {
	id := block.ID(p)
	if _, is := k.model.blocks[id]; is && !k.rarely(15) {
		if s, _, err := k.model.leaves(id); err == nil {
			return s.All()
		}
	}
	s, _, _ := k.model.leaves(k.model.tip)
	return s.All()
}

// pay is a transaction that spends c, for the most part by the right key, no more than there is, not too early.
func (k *maker) pay(c api.Spent) api.Tx {
	n := k.keys[c.Coin.Lock]
	if k.rarely(40) {
		n++
	}
	x := api.Tx{Version: 2, Ins: []api.In{{From: c.At, Key: key(n), Seq: api.Final}}}
	if k.rarely(4) {
		x.Ins[0].Seq = pick(&k.turns, uint32(k.below(3)), api.ByTime|uint32(k.below(3)))
	}
	left := c.Coin.Value
	for range 1 + k.below(2) {
		value := uint64(k.below(1 + int(left)))
		left -= value
		x.Outs = append(x.Outs, api.Out{Value: value, Lock: k.lock()})
	}
	if k.rarely(40) {
		x.Outs[0].Value += c.Coin.Value + 1
	}
	return x
}

// block is a new one.
func (k *maker) block() api.Block {
	p := k.parent()
	height := heightOf(p) + 1
	if k.rarely(40) {
		height += k.below(3) - 1
	}
	b := api.Block{Head: api.Head{Version: uint32(k.below(3)), Prev: block.ID(p), Time: p.Head.Time + uint32(k.below(700)) - 20, Work: 1 + uint32(k.below(4)), Nonce: uint32(k.below(1000))}}
	reward := uint64(50*api.Coin) >> (height / k.model.rules.Halving)
	claim := pick(&k.turns, reward, reward-uint64(k.below(100)), reward, reward, reward+uint64(k.below(2)))
	b.Txs = []api.Tx{block.First(height, claim, k.lock(), key(k.last))}
	have := k.coinsOf(p)
	for range k.below(4) {
		if len(have) == 0 {
			break
		}
		i := k.below(len(have))
		if x := k.pay(have[i]); tx.Check(x) == nil {
			b.Txs = append(b.Txs, x)
			have = slices.Delete(have, i, i+1)
			for n, out := range x.Outs {
				have = append(have, api.Spent{At: api.Point{Tx: tx.ID(x), N: uint32(n)}, Coin: api.Money{Value: out.Value, Lock: out.Lock, Height: height}})
			}
		}
	}
	return rooted(b)
}

// bytes are those of a new block, of one that was made, or of none.
func (k *maker) bytes() []byte {
	if k.rarely(12) {
		return block.Bytes(pick(&k.turns, k.made...))
	}
	b := k.block()
	if k.rarely(40) {
		b.Head.Root[k.below(32)]++
	}
	x := block.Bytes(b)
	if k.rarely(40) {
		return x[:k.below(len(x))]
	}
	k.made = append(k.made, b)
	return x
}

// P17.1, P17.2: many blocks, held against the model behind each one.
func TestAgainstTheModel(t *testing.T) {
	seen, backs, ons := map[error]int{}, map[int]int{}, map[int]int{}
	for round := range 100 {
		c, m := begin(t, rules(1+round%7, round%3))
		k := &maker{turns: turns{uint32(round)}, model: m, made: []api.Block{block.Start()}, keys: map[api.Hash]int{}}
		for range 40 {
			x := k.bytes()
			way, want := m.submit(x)
			seen[want.err]++
			backs[len(way.Back)]++
			ons[len(way.On)]++
			expectSubmit(t, "of many", c, x, want, way)
			expect(t, "of many", c, m)
		}
		if t.Failed() {
			t.Fatalf("round %d", round)
		}
	}
	for _, err := range []error{nil, api.ErrKnown, api.ErrParent, api.ErrInvalid, api.ErrTime, api.ErrRoot, api.ErrEnd, api.ErrBase, api.ErrReward, api.ErrMissing, api.ErrYoung, api.ErrKey, api.ErrLess, api.ErrEarly} {
		if seen[err] < 5 {
			t.Errorf("too few of %v: %v", err, seen)
		}
	}
	for n := range 3 {
		if backs[n] < 5 || ons[n] < 5 {
			t.Errorf("too few ways: back %v, on %v", backs, ons)
		}
	}
}
