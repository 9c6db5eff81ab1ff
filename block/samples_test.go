package block_test

import (
	"bytes"
	"crypto/sha256"
	"encoding/binary"
	"errors"
	"slices"
	"testing"

	"sargasso/api"
	"sargasso/spend"
)

// someHash is a digest of bytes that are all unlike, another one for each n.
func someHash(n int) (h api.Hash) {
	for i := range h {
		h[i] = byte(5*i + 11*n + 1)
	}
	h[31] = byte(n >> 8)
	return h
}

// someKey is a key of n bytes, no two beside each other the same.
func someKey(n int) []byte {
	key := make([]byte, n)
	for i := range key {
		key[i] = byte(7*i + n + 1)
	}
	return key
}

// someHead is a header of which each field is another one, and whose Work may be.
func someHead() api.Head {
	return api.Head{
		Version: 0x04030201,
		Prev:    someHash(1),
		Root:    someHash(2),
		Time:    0x84838281,
		Work:    0x00a3a2a1,
		Nonce:   0xc4c3c2c1,
	}
}

// based is a transaction that makes new coins, with a Key of so many bytes.
func based(key int) api.Tx {
	return api.Tx{
		Version: 1,
		Ins:     []api.In{{From: spend.Null(), Key: someKey(key), Seq: api.Final}},
		Outs:    []api.Out{{Value: 50, Lock: someHash(3)}},
	}
}

// paying is a transaction of so many Ins, Keys of so many bytes, and so many Outs; those of unlike n spend unlike coins.
func paying(n, ins, key, outs int) api.Tx {
	t := api.Tx{Version: 2, Time: uint32(n)}
	for i := range ins {
		from := api.Point{Tx: someHash(n), N: uint32(i)}
		t.Ins = append(t.Ins, api.In{From: from, Key: someKey(key), Seq: uint32(0xfffffff0 + i)})
	}
	for i := range outs {
		t.Outs = append(t.Outs, api.Out{Value: uint64(1000*n + i), Lock: someHash(n + i)})
	}
	return t
}

// small is the n-th of many short transactions, each of which spends another coin.
func small(n int) api.Tx {
	return paying(n, 1, 1, 1)
}

// headed is a block of some header and these transactions; its Root is not theirs.
func headed(l ...api.Tx) api.Block {
	return api.Block{Head: someHead(), Txs: l}
}

// rooted is b with the Root that it should have, worked out beside the package.
func rooted(b api.Block) api.Block {
	b.Head.Root = rootOf(b.Txs)
	return b
}

// counted is a block that Check takes as far as its numbers let it: a first transaction, and short others, so many in all.
func counted(many int) api.Block {
	b := headed()
	for n := range many {
		if n == 0 {
			b.Txs = append(b.Txs, based(4))
		} else {
			b.Txs = append(b.Txs, small(n))
		}
	}
	return rooted(b)
}

// copiedTx is t in new memory, worked out beside the package.
func copiedTx(t api.Tx) api.Tx {
	out := api.Tx{Version: t.Version, Time: t.Time}
	for _, in := range t.Ins {
		out.Ins = append(out.Ins, api.In{From: in.From, Key: append([]byte{}, in.Key...), Seq: in.Seq})
	}
	out.Outs = append(out.Outs, t.Outs...)
	return out
}

// copied is b in new memory, worked out beside the package.
func copied(b api.Block) api.Block {
	out := api.Block{Head: b.Head}
	for _, t := range b.Txs {
		out.Txs = append(out.Txs, copiedTx(t))
	}
	return out
}

// changed is a copy of b with a change made to it.
func changed(b api.Block, change func(b *api.Block)) api.Block {
	out := copied(b)
	change(&out)
	return out
}

// equalTx holds two transactions against each other field by field; nil and the empty list are the same.
func equalTx(a, b api.Tx) bool {
	ins := slices.EqualFunc(a.Ins, b.Ins, func(x, y api.In) bool {
		return x.From == y.From && bytes.Equal(x.Key, y.Key) && x.Seq == y.Seq
	})
	return a.Version == b.Version && ins && slices.Equal(a.Outs, b.Outs) && a.Time == b.Time
}

// equal holds two blocks against each other field by field; nil and the empty list are the same.
func equal(a, b api.Block) bool {
	return a.Head == b.Head && slices.EqualFunc(a.Txs, b.Txs, equalTx)
}

// writtenHead is what the bytes of a header should be, worked out beside the package.
func writtenHead(h api.Head) []byte {
	order := binary.LittleEndian
	b := order.AppendUint32(nil, h.Version)
	b = append(b, h.Prev[:]...)
	b = append(b, h.Root[:]...)
	b = order.AppendUint32(b, h.Time)
	b = order.AppendUint32(b, h.Work)
	return order.AppendUint32(b, h.Nonce)
}

// writtenTx is what the bytes of a transaction should be, worked out beside the package.
func writtenTx(t api.Tx) []byte {
	order := binary.LittleEndian
	b := order.AppendUint32(nil, t.Version)
	b = withCount(b, len(t.Ins))
	for _, in := range t.Ins {
		b = append(b, in.From.Tx[:]...)
		b = order.AppendUint32(b, in.From.N)
		b = append(withCount(b, len(in.Key)), in.Key...)
		b = order.AppendUint32(b, in.Seq)
	}
	b = withCount(b, len(t.Outs))
	for _, out := range t.Outs {
		b = append(order.AppendUint64(b, out.Value), out.Lock[:]...)
	}
	return order.AppendUint32(b, t.Time)
}

// written is what Bytes of b should be, worked out beside the package.
func written(b api.Block) []byte {
	x := withCount(writtenHead(b.Head), len(b.Txs))
	for _, t := range b.Txs {
		x = append(x, writtenTx(t)...)
	}
	return x
}

// withCount is b and behind it a count in the fewest bytes.
func withCount(b []byte, n int) []byte {
	order := binary.LittleEndian
	switch {
	case n < 253:
		return append(b, byte(n))
	case n < 1<<16:
		return order.AppendUint16(append(b, 253), uint16(n))
	}
	return order.AppendUint32(append(b, 254), uint32(n))
}

// twice is the digest of b's digest, by the library's means.
func twice(b []byte) api.Hash {
	once := sha256.Sum256(b)
	return sha256.Sum256(once[:])
}

// rootOf is the root of l's ids, by the library's digests.
func rootOf(l []api.Tx) api.Hash {
	var row []api.Hash
	for _, t := range l {
		row = append(row, twice(writtenTx(t)))
	}
	if len(row) == 0 {
		return api.Hash{}
	}
	for len(row) > 1 {
		if len(row)%2 == 1 {
			row = append(row, row[len(row)-1])
		}
		var above []api.Hash
		for i := 0; i < len(row); i += 2 {
			above = append(above, twice(slices.Concat(row[i][:], row[i+1][:])))
		}
		row = above
	}
	return row[0]
}

// readable are blocks that Read takes: the least and the most of all, and many that Check does not take.
func readable() map[string]api.Block {
	return map[string]api.Block{
		"the zero value":         {},
		"a header alone":         headed(),
		"one zero transaction":   headed(api.Tx{}),
		"a first transaction":    rooted(headed(based(4))),
		"some":                   rooted(headed(based(7), paying(1, 2, 33, 2), paying(2, 1, 0, 3))),
		"no first transaction":   headed(small(1), small(2)),
		"one transaction twice":  headed(based(4), small(1), small(1)),
		"a Work of 0":            {Head: api.Head{Version: 1}, Txs: []api.Tx{based(4)}},
		"unlike transactions":    headed(api.Tx{}, paying(1, api.MaxIns, 3, 0), api.Tx{}, paying(2, 0, 0, api.MaxOuts), based(0)),
		"too long a transaction": headed(based(4), paying(1, api.MaxIns, api.MaxKey, api.MaxOuts)),
		"too many bytes":         headed(slices.Repeat([]api.Tx{paying(1, api.MaxIns, api.MaxKey, api.MaxOuts)}, 4)...),
		"199 transactions":       counted(api.MaxTxs - 1),
		"200 transactions":       counted(api.MaxTxs),
		"200 zero transactions":  headed(make([]api.Tx, api.MaxTxs)...),
	}
}

// anySize are blocks that no Read takes, since they have too many of something; Bytes is of any.
func anySize() map[string]api.Block {
	return map[string]api.Block{
		"201 transactions":       counted(api.MaxTxs + 1),
		"252 transactions":       headed(make([]api.Tx, 252)...),
		"253 transactions":       headed(make([]api.Tx, 253)...),
		"300 transactions":       counted(300),
		"65,535 transactions":    headed(make([]api.Tx, 1<<16-1)...),
		"65,536 transactions":    headed(make([]api.Tx, 1<<16)...),
		"too many Ins":           headed(based(4), paying(1, api.MaxIns+1, 1, 1)),
		"too many Outs":          headed(based(4), small(1), paying(2, 1, 1, api.MaxOuts+1)),
		"too long a Key":         headed(based(api.MaxKey + 1)),
		"a Key of 70,000 bytes":  headed(based(4), paying(1, 2, 70000, 1), small(2)),
		"600 of each in the 2nd": headed(based(4), paying(1, 600, 300, 600)),
	}
}

// roomyTx is t in lists with other things behind their lengths.
func roomyTx(t api.Tx) api.Tx {
	out := copiedTx(t)
	for i := range out.Ins {
		key := append(out.Ins[i].Key, bytes.Repeat([]byte{0xee}, 5)...)
		out.Ins[i].Key = key[:len(t.Ins[i].Key)]
	}
	out.Ins = append(out.Ins, make([]api.In, 3)...)[:len(t.Ins)]
	out.Outs = append(out.Outs, make([]api.Out, 3)...)[:len(t.Outs)]
	return out
}

// whole is b with all that lies in its lists, behind their lengths too.
func whole(b api.Block) api.Block {
	b.Txs = slices.Clone(b.Txs[:cap(b.Txs)])
	for i, t := range b.Txs {
		b.Txs[i].Ins = slices.Clone(t.Ins[:cap(t.Ins)])
		for j, in := range b.Txs[i].Ins {
			b.Txs[i].Ins[j].Key = in.Key[:cap(in.Key)]
		}
		b.Txs[i].Outs = t.Outs[:cap(t.Outs)]
	}
	return b
}

// roomy is b in lists with other things behind their lengths, and a call that tells whether all of that memory is as it was.
func roomy(b api.Block) (api.Block, func() bool) {
	var l []api.Tx
	for _, t := range append(slices.Clone(b.Txs), small(77), small(78), api.Tx{}) {
		l = append(l, roomyTx(t))
	}
	out := api.Block{Head: b.Head, Txs: l[:len(b.Txs)]}
	was := copied(whole(out))
	return out, func() bool { return equal(whole(out), was) }
}

// spoil writes over all that lies in b's lists, their spare room too.
func spoil(b api.Block) {
	l := b.Txs[:cap(b.Txs)]
	for i := range l {
		for _, in := range l[i].Ins {
			key := in.Key[:cap(in.Key)]
			for j := range key {
				key[j] ^= 0xff
			}
		}
		ins := l[i].Ins[:cap(l[i].Ins)]
		for j := range ins {
			ins[j] = api.In{From: api.Point{N: 0xdead}, Seq: 0xdead}
		}
		outs := l[i].Outs[:cap(l[i].Outs)]
		for j := range outs {
			outs[j] = api.Out{Value: 0xdead}
		}
		l[i] = api.Tx{Version: 0xdead}
	}
}

// none is the place of an error that is around no place.
const none = -1

// expectError asks that got is want: itself at no place, or else right in an At of that place.
func expectError(t *testing.T, what string, got, want error, place int) {
	t.Helper()
	if place == none || want == nil {
		if got != want {
			t.Errorf("%s: %v; it should be %v", what, got, want)
		}
		return
	}
	var at *api.At
	if !errors.As(got, &at) || got != error(at) || at.Pos != place || at.Err != want {
		t.Errorf("%s: %v; it should be %d: %v", what, got, place, want)
	}
}
