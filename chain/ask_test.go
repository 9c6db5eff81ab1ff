package chain_test

import (
	"slices"
	"testing"

	"sargasso/api"
	"sargasso/block"
	"sargasso/tx"
)

// P17.2: Height, Past and Pasts are the tip's; a past is the one in the middle of the last eleven Times.
func TestPasts(t *testing.T) {
	c, m := begin(t, rules(100, 0))
	times := []uint32{1500, 1700, 1600, 1650, 1601, 5000, 1602, 4000000000, 1651, 1652, 3000, 2000, 1653, 1701, 2500, 1702, 2001}
	pasts := []uint32{1000, 1500, 1500, 1600, 1600, 1601, 1601, 1602, 1602, 1650, 1650, 1651, 1652, 1652, 1653, 1701, 1702, 1702}
	p := block.Start()
	for n, time := range times {
		p = changed(on(p, 1, n), func(b *api.Block) { b.Head.Time = time })
		sendAll(t, c, m, p)
		if !slices.Equal(c.Pasts(), pasts[:n+2]) || c.Past() != pasts[n+1] || c.Height() != n+1 {
			t.Errorf("behind number %d: %v, %d, %d, not %v", n, c.Pasts(), c.Past(), c.Height(), pasts[:n+2])
		}
	}
}

// P17.2: Branch, On and Height are of the tip's branch, Block of all that are in the tree.
func TestBranchOnBlock(t *testing.T) {
	f := fork(t)
	start := block.ID(block.Start())
	if !slices.Equal(f.c.Branch(), append([]api.Hash{start}, idsOf(f.a)...)) || f.c.Height() != 4 {
		t.Errorf("Branch: %x", f.c.Branch())
	}
	for _, b := range f.a {
		expectAt(t, "on the branch", f, b, true)
	}
	for _, b := range up(f.b, f.bad) {
		expectAt(t, "beside", f, b, false)
	}
	expectAt(t, "the start", f, block.Start(), true)
	next := on(f.b[1], 1000, 40)
	send(t, "another branch", f.c, f.m, next, fails(nil), down(f.a), up(f.b[:2], next))
	for _, b := range up(f.a, f.b[2], f.bad) {
		expectAt(t, "taken back", f, b, false)
	}
	for _, b := range []api.Block{block.Start(), f.b[0], f.b[1], next} {
		expectAt(t, "put on", f, b, true)
	}
	if !slices.Equal(f.c.Branch(), idsOf([]api.Block{block.Start(), f.b[0], f.b[1], next})) || f.c.Height() != 3 {
		t.Errorf("Branch: %x", f.c.Branch())
	}
}

// expectAt asks for Block and On of b, which is in f's tree.
func expectAt(t *testing.T, what string, f forked, b api.Block, on bool) {
	t.Helper()
	got, is := f.c.Block(block.ID(b))
	if !is || !block.Same(got, b) || f.c.On(block.ID(b)) != on {
		t.Errorf("%s: Block %v, On %v", what, is, f.c.On(block.ID(b)))
	}
}

// P17.2: Block and On of what is not there: false, and nothing; so of what was refused.
func TestOfNone(t *testing.T) {
	f := fork(t)
	refused := on(f.bad, 1, 50)
	refuse(t, "refused", f.c, f.m, refused, fails(api.ErrInvalid))
	for _, id := range []api.Hash{{}, someHash(1), block.ID(refused), f.a[0].Head.Root, tx.ID(f.a[3].Txs[0])} {
		if b, is := f.c.Block(id); is || b.Head != (api.Head{}) || len(b.Txs) != 0 || f.c.On(id) {
			t.Errorf("of %x: %v, %v, %v", id, b, is, f.c.On(id))
		}
	}
}

// P17.2: Bad are those marked, by Less; not those that are refused.
func TestBad(t *testing.T) {
	f := fork(t)
	if !slices.Equal(f.c.Bad(), []api.Hash{block.ID(f.bad)}) {
		t.Errorf("Bad: %x", f.c.Bad())
	}
	b4 := on(f.b[2], 1, 15)
	keep(t, f.c, f.m, b4)
	b5 := on(b4, 1000, 16)
	send(t, "to light", f.c, f.m, b5, fails(api.ErrInvalid), nil, nil)
	refuse(t, "refused", f.c, f.m, on(b5, 1, 17), fails(api.ErrInvalid))
	want := idsOf(byID(f.bad, f.b[2], b4, b5))
	if !slices.Equal(f.c.Bad(), want) {
		t.Errorf("Bad: %x, not %x", f.c.Bad(), want)
	}
}

// P17.2: Coins is a copy: what is done to it the chain does not show, nor it what is done to the chain; at the start, too, where there are none.
func TestCoinsAreACopy(t *testing.T) {
	c, m := begin(t, rules(100, 0))
	p := api.Point{Tx: someHash(4)}
	none := c.Coins()
	if err := none.Add(p, api.Money{Value: 5}); err != nil || c.Coins().Len() != 0 {
		t.Errorf("%v, %d coins", err, c.Coins().Len())
	}
	a := on(block.Start(), 1, 1)
	sendAll(t, c, m, a)
	s, other := c.Coins(), c.Coins()
	if err := s.Add(p, api.Money{Value: 5}); err != nil {
		t.Error(err)
	}
	if _, err := s.Spend(api.Point{Tx: tx.ID(a.Txs[0])}); err != nil {
		t.Error(err)
	}
	expect(t, "the copy is changed", c, m)
	if got, is := other.Get(api.Point{Tx: tx.ID(a.Txs[0])}); !is || got.Value != coinbase || got.Height != 1 || !got.Base || other.Len() != 1 {
		t.Errorf("another copy: %v, %v, %d", got, is, other.Len())
	}
	sendAll(t, c, m, on(a, 1, 2, pay(a, 7, 9)))
	if none.Len() != 1 || s.Len() != 1 || other.Len() != 1 {
		t.Errorf("copies of before: %d, %d, %d", none.Len(), s.Len(), other.Len())
	}
}

// P17.2, P0.4: each list and each block handed out is new memory: a write into one is seen in no other one, and not in the chain.
func TestAnswersAreNewMemory(t *testing.T) {
	f := fork(t)
	for _, l := range [][]api.Hash{f.c.Branch(), f.c.Bad()} {
		branch, bad := f.c.Branch(), f.c.Bad()
		whole := l[:cap(l)]
		for i := range whole {
			whole[i] = someHash(8)
		}
		if !slices.Equal(branch, f.m.branch(f.m.tip)) || !slices.Equal(bad, []api.Hash{block.ID(f.bad)}) {
			t.Error("two lists share memory")
		}
	}
	pasts, again := f.c.Pasts(), f.c.Pasts()
	whole := pasts[:cap(pasts)]
	for i := range whole {
		whole[i] = 7
	}
	if !slices.Equal(again, f.m.pasts(f.m.tip)) {
		t.Error("two lists share memory")
	}
	for id, b := range f.m.blocks {
		first, _ := f.c.Block(id)
		second, _ := f.c.Block(id)
		spoil(first)
		if !block.Same(second, b) {
			t.Error("two blocks share memory")
		}
	}
	expect(t, "spoilt", f.c, f.m)
	// what spare room Branch and Pasts had is not what the next block is put into
	_ = append(f.c.Branch(), someHash(8))
	next := on(f.a[3], 1, 60)
	branch, late := f.c.Branch(), f.c.Pasts()
	sendAll(t, f.c, f.m, next)
	_, _ = append(branch, someHash(8)), append(late, 8)
	expect(t, "spoilt", f.c, f.m)
}
