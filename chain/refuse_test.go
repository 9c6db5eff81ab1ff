package chain_test

import (
	"bytes"
	"math"
	"slices"
	"testing"

	"sargasso/api"
	"sargasso/block"
	"sargasso/chain"
)

// forked is a chain of two rows on the start: a, its branch, and b beside it, of which the last one can't be put on, which is not yet known. bad stands on the last of a, and is marked.
type forked struct {
	c    *chain.Chain
	m    *model
	a, b []api.Block
	bad  api.Block
}

// fork makes one.
func fork(t *testing.T) forked {
	t.Helper()
	f := forked{a: row(block.Start(), 20, 1, 4), b: row(block.Start(), 5, 11, 2)}
	f.c, f.m = begin(t, rules(100, 0))
	sendAll(t, f.c, f.m, f.a...)
	keep(t, f.c, f.m, f.b...)
	f.b = append(f.b, on(f.b[1], 5, 13, pay(f.a[1], 1, 9)))
	keep(t, f.c, f.m, f.b[2])
	f.bad = on(f.a[3], 5, 14, pay(f.b[1], 1, 9))
	mark(t, "a fork", f.c, f.m, f.bad, fails(api.ErrMissing, 1, 0))
	return f
}

// P17.1: what is no block is block.Read's error, and nothing is changed.
func TestSubmitReadErrors(t *testing.T) {
	f := fork(t)
	good := on(f.a[3], 5, 20, pay(f.a[0], 500, 9))
	x := block.Bytes(good)
	for n := range x {
		sendBytes(t, "cut off", f.c, f.m, x[:n], fails(api.ErrEnd), nil, nil)
	}
	for _, y := range []struct {
		what string
		x    []byte
		err  error
	}{
		{"nothing", nil, api.ErrEnd}, {"the empty list", []byte{}, api.ErrEnd}, {"a byte more", append(slices.Clone(x), 0), api.ErrShape},
		{"twice", slices.Concat(x, x), api.ErrShape}, {"too many", slices.Concat(x[:80], []byte{201}, make([]byte, 3000)), api.ErrMany},
		{"a count that is too long", slices.Concat(x[:80], []byte{253, 2, 0}, x[81:]), api.ErrShape},
	} {
		sendBytes(t, y.what, f.c, f.m, y.x, fails(y.err), nil, nil)
	}
	sendBytes(t, "whole", f.c, f.m, x, fails(nil), nil, []api.Block{good})
}

// P17.1: block.Check's errors go up as they are, and nothing is changed.
func TestSubmitCheckErrors(t *testing.T) {
	f := fork(t)
	good := on(f.a[3], 5, 20, pay(f.a[0], 500, 9), pay(f.a[1], 500, 9))
	many := slices.Repeat([]api.Out{{Value: 1}}, api.MaxOuts)
	for _, x := range []struct {
		put  func(b *api.Block)
		want fault
	}{
		{func(b *api.Block) { b.Head.Work = 0 }, fails(api.ErrRange)},
		{func(b *api.Block) { b.Head.Work = 1<<24 + 1 }, fails(api.ErrRange)},
		{func(b *api.Block) { b.Txs = nil }, fails(api.ErrMany)},
		{func(b *api.Block) {
			for n := range 10 {
				p := pay(f.a[2], 1, 9)
				p.Ins[0].From.N, p.Outs = uint32(n), many
				b.Txs = append(b.Txs, p)
			}
		}, fails(api.ErrLong)},
		{func(b *api.Block) { b.Txs[2].Outs = nil }, fails(api.ErrMany, 2)},
		{func(b *api.Block) { b.Txs[1].Outs[0].Value = api.MaxMoney + 1 }, fails(api.ErrValue, 1)},
		{func(b *api.Block) { b.Txs = b.Txs[1:] }, fails(api.ErrBase, 0)},
		{func(b *api.Block) { b.Txs[2] = block.First(5, 1, api.Hash{}, nil) }, fails(api.ErrBase, 2)},
		{func(b *api.Block) { b.Txs[2].Ins = b.Txs[1].Ins }, fails(api.ErrTwice)},
	} {
		b := changed(good, x.put)
		refuse(t, "Check's", f.c, f.m, b, x.want)
		for _, put := range behindCheck(f) {
			c := block.Clone(b)
			put(&c.Head)
			refuse(t, "Check's, ahead of others", f.c, f.m, c, x.want)
		}
	}
	for at := range good.Head.Root {
		b := block.Clone(good)
		b.Head.Root[at] ^= 4
		refuse(t, "another Root", f.c, f.m, b, fails(api.ErrRoot))
	}
	send(t, "the good one", f.c, f.m, good, fails(nil), nil, []api.Block{good})
}

// behindCheck are changes to a header by which errors are due that stand behind block.Check's.
func behindCheck(f forked) []func(h *api.Head) {
	return []func(h *api.Head){
		func(h *api.Head) { h.Prev = someHash(7) },
		func(h *api.Head) { h.Prev = block.ID(f.bad) },
		func(h *api.Head) { h.Time = 0 },
	}
}

// P17.1: a header that is there, with other transactions, is ErrRoot or what else Check tells, ahead of ErrKnown.
func TestSubmitKnownHeader(t *testing.T) {
	f := fork(t)
	for _, b := range []api.Block{block.Start(), f.a[0], f.a[3], f.b[1], f.b[2], f.bad} {
		x := block.Clone(b)
		x.Txs[0].Outs[0].Lock[3]++
		refuse(t, "other transactions", f.c, f.m, x, fails(api.ErrRoot))
		x.Txs = append(x.Txs, x.Txs[0])
		refuse(t, "the first one twice", f.c, f.m, x, fails(api.ErrBase, len(b.Txs)))
		x.Txs = nil
		refuse(t, "no transactions", f.c, f.m, x, fails(api.ErrMany))
	}
}

// P17.1: one that is there is ErrKnown, wherever it stands, marked or not: the start, too, whose parent is not there.
func TestSubmitKnown(t *testing.T) {
	f := fork(t)
	for _, b := range slices.Concat([]api.Block{block.Start(), f.bad}, f.a, f.b) {
		refuse(t, "one that is there", f.c, f.m, b, fails(api.ErrKnown))
	}
	send(t, "one that brings b3 to light", f.c, f.m, on(f.b[2], 100, 15), fails(api.ErrInvalid), nil, nil)
	for _, b := range slices.Concat([]api.Block{block.Start(), f.bad, on(f.b[2], 100, 15)}, f.a, f.b) {
		refuse(t, "one that is there, marked", f.c, f.m, b, fails(api.ErrKnown))
	}
}

// P17.1: one whose parent is not there is ErrParent; behind its parent it comes in.
func TestSubmitParent(t *testing.T) {
	f := fork(t)
	for _, prev := range []api.Hash{{}, someHash(3), f.a[3].Head.Root, block.IDs(f.a[3])[0]} {
		b := on(f.a[3], 5, 20)
		b.Head.Prev = prev
		refuse(t, "on none", f.c, f.m, b, fails(api.ErrParent))
		b.Head.Time = 0
		refuse(t, "on none, too early", f.c, f.m, b, fails(api.ErrParent))
	}
	l := row(f.a[3], 5, 20, 4)
	for i, b := range l {
		for _, early := range l[i+1:] {
			refuse(t, "ahead of its parent", f.c, f.m, early, fails(api.ErrParent))
		}
		send(t, "behind its parent", f.c, f.m, b, fails(nil), nil, []api.Block{b})
	}
}

// P17.1: one whose parent is marked is ErrInvalid, and is not taken in, whatever else is due: one on it is ErrParent.
func TestSubmitInvalid(t *testing.T) {
	f := fork(t)
	b4 := on(f.b[2], 100, 15)
	send(t, "one that brings b3 to light", f.c, f.m, b4, fails(api.ErrInvalid), nil, nil)
	for _, p := range []api.Block{f.bad, f.b[2], b4} {
		for _, work := range []uint32{1, 1 << 24} {
			b := on(p, work, 30)
			refuse(t, "on a marked one", f.c, f.m, b, fails(api.ErrInvalid))
			refuse(t, "on one that was refused", f.c, f.m, on(b, work, 31), fails(api.ErrParent))
			b.Head.Time = 0
			refuse(t, "on a marked one, too early", f.c, f.m, b, fails(api.ErrInvalid))
		}
	}
	keep(t, f.c, f.m, on(f.b[1], 1, 30))
}

// P17.1: the Time has to be above the past of the parent, whatever the tip's is, and the Times of the others.
func TestSubmitTime(t *testing.T) {
	// Of the first row the pasts go up slowly, of the second one fast.
	slow, fast := row(block.Start(), 50, 1, 12), []api.Block(nil)
	p := block.Start()
	for n := range 3 {
		p = changed(on(p, 1, 40+n), func(b *api.Block) { b.Head.Time += 1 << 20 })
		fast = append(fast, p)
	}
	for _, x := range []struct {
		parent api.Block
		past   uint32
	}{
		{block.Start(), 1000}, {slow[0], 1010}, {slow[1], 1010}, {slow[2], 1020}, {slow[9], 1050}, {slow[10], 1060}, {slow[11], 1070},
		{fast[0], 1010 + 1<<20}, {fast[1], 1010 + 1<<20}, {fast[2], 1020 + 2<<20},
	} {
		for i, time := range []uint32{0, 1, 999, x.past - 1, x.past, x.past + 1, x.past + 9, x.past + 1<<20, math.MaxUint32} {
			c, m := begin(t, rules(100, 1))
			sendAll(t, c, m, slow...)
			keep(t, c, m, fast...)
			b := changed(on(x.parent, 1, 50+i), func(b *api.Block) { b.Head.Time = time })
			switch {
			case time <= x.past:
				refuse(t, "too early", c, m, b, fails(api.ErrTime))
			case block.Same(x.parent, slow[11]):
				sendAll(t, c, m, b)
			default:
				keep(t, c, m, b)
			}
		}
	}
}

// P17.1: the errors of a transaction, and of the height, are none ahead of the tree: what would be one that can't be put on is refused by its Time.
func TestSubmitTimeAheadOfPut(t *testing.T) {
	f := fork(t)
	b := changed(on(f.a[3], 5, 20, pay(f.b[1], 1, 9)), func(b *api.Block) { b.Head.Time = f.c.Past() })
	refuse(t, "too early", f.c, f.m, b, fails(api.ErrTime))
	b.Txs[0].Ins[0].Key[0]++
	refuse(t, "too early, of another height", f.c, f.m, rooted(b), fails(api.ErrTime))
	b.Head.Time++
	mark(t, "of another height", f.c, f.m, rooted(b), fails(api.ErrBase))
}

// P17.1: MaxNodes can be there, the start among them; then each one more is ErrFull, if no other error is due ahead of it.
func TestSubmitFull(t *testing.T) {
	c, err := chain.New(rules(100, 1))
	if err != nil {
		t.Fatal(err)
	}
	l := row(block.Start(), 1, 1, 40)
	submit := func(b api.Block, want fault) {
		t.Helper()
		if _, err := c.Submit(block.Bytes(b)); faultOf(err) != want {
			t.Fatalf("Submit: %v, not %v", err, want)
		}
	}
	for _, b := range l {
		submit(b, fails(nil))
	}
	wrong := changed(on(l[39], 1, 50), func(b *api.Block) { b.Txs[0].Outs[0].Value = api.MaxMoney })
	submit(wrong, fails(api.ErrReward))
	last := block.Start()
	for n := range api.MaxNodes - 42 {
		last = on(l[n%30], 1, 100+n)
		submit(last, fails(nil))
	}
	tip, sum := c.Tip(), c.Coins().Sum()
	for range 2 {
		for _, x := range []struct {
			b    api.Block
			want fault
		}{
			{on(l[39], 1, 60), fails(api.ErrFull)}, {on(l[3], 1<<24, 60), fails(api.ErrFull)}, {on(last, 1, 60), fails(api.ErrFull)}, {on(block.Start(), 1<<24, 60), fails(api.ErrFull)},
			{on(on(l[39], 1, 60), 1, 61), fails(api.ErrParent)}, {on(wrong, 1, 62), fails(api.ErrInvalid)},
			{changed(on(l[39], 1, 60), func(b *api.Block) { b.Head.Time = 7 }), fails(api.ErrTime)},
			{last, fails(api.ErrKnown)}, {block.Start(), fails(api.ErrKnown)}, {wrong, fails(api.ErrKnown)},
			{changed(on(l[39], 1, 60), func(b *api.Block) { b.Head.Work = 0 }), fails(api.ErrRange)},
		} {
			submit(x.b, x.want)
			if _, is := c.Block(block.ID(x.b)); is != (x.want.err == api.ErrKnown) {
				t.Errorf("%v, and Block is %v", x.want, is)
			}
		}
		if c.Tip() != tip || tip != block.ID(l[39]) || c.Coins().Sum() != sum || c.Height() != 40 || !slices.Equal(c.Bad(), idsOf([]api.Block{wrong})) {
			t.Error("something is changed")
		}
	}
}

// P17.1, P0.4: what Submit is handed is neither changed nor kept, nor read behind its length.
func TestSubmitLeavesItsBytes(t *testing.T) {
	c, m := begin(t, rules(100, 0))
	a := on(block.Start(), 1, 1)
	b := on(a, 1, 2, pay(a, 10, 9))
	for _, y := range []api.Block{a, b} {
		x := block.Bytes(y)
		roomed := append(bytes.Clone(x), 1, 2, 3)
		m.submit(x)
		if _, err := c.Submit(roomed[:len(x)]); err != nil || !bytes.Equal(roomed, append(bytes.Clone(x), 1, 2, 3)) {
			t.Errorf("%v, or it was changed", err)
		}
		clear(roomed)
		expect(t, "what was handed in is gone", c, m)
	}
}
