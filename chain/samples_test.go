package chain_test

import (
	"bytes"
	"encoding/binary"
	"errors"
	"slices"
	"strconv"
	"testing"

	"sargasso/api"
	"sargasso/block"
	"sargasso/chain"
	"sargasso/spend"
	"sargasso/tx"
)

// coinbase is what a block's first transaction makes, as on has it: less than any reward here.
const coinbase = 1000

// someHash is a digest of unlike bytes, another one for each n.
func someHash(n int) (h api.Hash) {
	for i := range h {
		h[i] = byte(13*i + 19*n + 5)
	}
	return h
}

// key is another key for each n.
func key(n int) []byte {
	return []byte("key " + strconv.Itoa(n))
}

// rules are ones that can be, of this halving and maturity.
func rules(halving, maturity int) api.Rules {
	return api.Rules{
		Halving: halving, Maturity: maturity,
		PoolBytes: 1 << 16, RedoBytes: 1 << 16, LogMost: 1000,
		Ancestors: 25, AncestorBytes: 1 << 16, Descendants: 25, DescendantBytes: 1 << 16,
	}
}

// begin is a chain of these rules, and its model.
func begin(t *testing.T, r api.Rules) (*chain.Chain, *model) {
	t.Helper()
	c, err := chain.New(r)
	if err != nil {
		t.Fatalf("New: %v", err)
	}
	return c, modelOf(r)
}

// heightOf is the height that b's first transaction tells.
func heightOf(b api.Block) int {
	return int(binary.LittleEndian.Uint32(b.Txs[0].Ins[0].Key))
}

// on is a block on p of this work, another one for each n: 10 later than p, its first transaction makes coinbase, for key number n.
func on(p api.Block, work uint32, n int, txs ...api.Tx) api.Block {
	return onAt(p, heightOf(p)+1, work, n, txs...)
}

// onAt is on's block, whose first transaction tells this height.
func onAt(p api.Block, height int, work uint32, n int, txs ...api.Tx) api.Block {
	b := api.Block{Head: api.Head{Version: 1, Prev: block.ID(p), Time: p.Head.Time + 10, Work: work}}
	first := block.First(height, coinbase, spend.Lock(key(n)), key(n))
	b.Txs = append([]api.Tx{first}, txs...)
	return rooted(b)
}

// row are so many blocks, one on the other, the first one on p; they are numbered from n on.
func row(p api.Block, work uint32, n, many int) (l []api.Block) {
	for i := range many {
		p = on(p, work, n+i)
		l = append(l, p)
	}
	return l
}

// up is l, and b behind it.
func up(l []api.Block, b ...api.Block) []api.Block {
	return slices.Concat(l, b)
}

// down is l, the last one first.
func down(l []api.Block) []api.Block {
	l = slices.Clone(l)
	slices.Reverse(l)
	return l
}

// byID is l in the order of its ids.
func byID(l ...api.Block) []api.Block {
	return slices.SortedFunc(slices.Values(l), func(a, b api.Block) int {
		first, second := block.ID(a), block.ID(b)
		return bytes.Compare(first[:], second[:])
	})
}

// rooted is b with its Root.
func rooted(b api.Block) api.Block {
	b.Head.Root = block.Root(b)
	return b
}

// changed is a copy of b that put was done to, with its Root.
func changed(b api.Block, put func(b *api.Block)) api.Block {
	b = block.Clone(b)
	put(&b)
	return rooted(b)
}

// pay is a transaction that spends what the first one of b makes, which on made, and pays value to key number to.
func pay(b api.Block, value uint64, to int) api.Tx {
	return spending(b.Txs[0], b.Txs[0].Ins[0].Key[4:], value, to)
}

// payOn is a transaction that spends the Out of t, which pays to key number from, and pays value to key number to.
func payOn(t api.Tx, from int, value uint64, to int) api.Tx {
	return spending(t, key(from), value, to)
}

// spending is a transaction that spends the first Out of t by a key, and pays value to key number to.
func spending(t api.Tx, by []byte, value uint64, to int) api.Tx {
	return api.Tx{
		Version: 2,
		Ins:     []api.In{{From: api.Point{Tx: tx.ID(t)}, Key: slices.Clone(by), Seq: api.Final}},
		Outs:    []api.Out{{Value: value, Lock: spend.Lock(key(to))}},
	}
}

// with is t with this Seq in its In.
func with(t api.Tx, seq uint32) api.Tx {
	t = tx.Clone(t)
	t.Ins[0].Seq = seq
	return t
}

// fault is an error by its places, the outermost first, and what stands within.
type fault struct {
	places string
	err    error
}

// fails is err, around these places.
func fails(err error, places ...int) fault {
	f := fault{err: err}
	for _, n := range places {
		f.places += strconv.Itoa(n) + " "
	}
	return f
}

// faultOf takes err apart: nothing but an *api.At may be around it.
func faultOf(err error) fault {
	var places []int
	for {
		at, is := err.(*api.At)
		if !is {
			return fails(err, places...)
		}
		places = append(places, at.Pos)
		err = at.Err
	}
}

// around writes into each *api.At of err, so that one that is handed out again would be seen.
func around(err error) {
	var at *api.At
	for errors.As(err, &at) {
		err = at.Err
		at.Pos, at.Err = 99, api.ErrWord
	}
}

// idsOf are the ids of l.
func idsOf(l []api.Block) (ids []api.Hash) {
	for _, b := range l {
		ids = append(ids, block.ID(b))
	}
	return ids
}

// same tells whether a and b are the same blocks, in the same order.
func same(a, b []api.Block) bool {
	return slices.EqualFunc(a, b, block.Same)
}

// spoil writes into all of b's memory, its spare room too.
func spoil(b api.Block) {
	txs := b.Txs[:cap(b.Txs)]
	for i := range txs {
		x := &txs[i]
		x.Version++
		ins, outs := x.Ins[:cap(x.Ins)], x.Outs[:cap(x.Outs)]
		for j := range ins {
			k := ins[j].Key[:cap(ins[j].Key)]
			for n := range k {
				k[n] ^= 0xff
			}
			ins[j].Seq++
		}
		for j := range outs {
			outs[j].Value++
		}
	}
}

// spoilAll writes into all of l's memory, its spare room too.
func spoilAll(l []api.Block) {
	whole := l[:cap(l)]
	for i := range whole {
		spoil(whole[i])
		whole[i].Head.Time++
	}
}

// send submits b to c, and to the model m, and asks for this way and this error, and then that c shows what m does.
func send(t *testing.T, what string, c *chain.Chain, m *model, b api.Block, want fault, back, put []api.Block) {
	t.Helper()
	sendBytes(t, what, c, m, block.Bytes(b), want, back, put)
}

// sendBytes does so with the bytes of a block.
func sendBytes(t *testing.T, what string, c *chain.Chain, m *model, x []byte, want fault, back, put []api.Block) {
	t.Helper()
	way, f := m.submit(x)
	if f != want || !same(way.Back, back) || !same(way.On, put) {
		t.Errorf("%s: the model has %v, %d back, %d on, not %v, %d back, %d on", what, f, len(way.Back), len(way.On), want, len(back), len(put))
	}
	expectSubmit(t, what, c, x, want, chain.Move{Back: back, On: put})
	expect(t, what, c, m)
}

// expectSubmit submits x to c, and asks for this error and this way; then it writes into all that was handed in and out.
func expectSubmit(t *testing.T, what string, c *chain.Chain, x []byte, want fault, way chain.Move) {
	t.Helper()
	roomed := append(slices.Clone(x), 1, 2, 3, 4, 5)
	got, err := c.Submit(roomed[:len(x)])
	if f := faultOf(err); f != want {
		t.Errorf("%s: Submit: %v, not %v", what, f, want)
	}
	if !same(got.Back, way.Back) || !same(got.On, way.On) {
		t.Errorf("%s: Submit: %d back, %d on, not these %d and %d", what, len(got.Back), len(got.On), len(way.Back), len(way.On))
	}
	if !slices.Equal(roomed, append(slices.Clone(x), 1, 2, 3, 4, 5)) {
		t.Errorf("%s: what is handed in was changed", what)
	}
	around(err)
	for i := range roomed {
		roomed[i] ^= 0xff
	}
	spoilAll(got.Back)
	spoilAll(got.On)
}

// sendAll submits l, each of which goes on the tip.
func sendAll(t *testing.T, c *chain.Chain, m *model, l ...api.Block) {
	t.Helper()
	for i, b := range l {
		send(t, "number "+strconv.Itoa(i)+" of a row", c, m, b, fails(nil), nil, []api.Block{b})
	}
}

// keep submits l, each of which comes to stand on a branch that is not the best.
func keep(t *testing.T, c *chain.Chain, m *model, l ...api.Block) {
	t.Helper()
	for i, b := range l {
		send(t, "number "+strconv.Itoa(i)+" beside", c, m, b, fails(nil), nil, nil)
	}
}

// refuse submits b, which is refused, ahead of the tree.
func refuse(t *testing.T, what string, c *chain.Chain, m *model, b api.Block, want fault) {
	t.Helper()
	has := len(m.blocks)
	for range 2 {
		send(t, what, c, m, b, want, nil, nil)
	}
	if len(m.blocks) != has {
		t.Errorf("%s: the model took it in", what)
	}
}

// mark submits b, which is taken in and marked.
func mark(t *testing.T, what string, c *chain.Chain, m *model, b api.Block, want fault) {
	t.Helper()
	send(t, what, c, m, b, want, nil, nil)
	id := block.ID(b)
	if got, is := c.Block(id); !is || !block.Same(got, b) || !slices.Contains(c.Bad(), id) || c.On(id) {
		t.Errorf("%s: it is not there, or not marked", what)
	}
}
