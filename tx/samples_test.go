package tx_test

import (
	"bytes"
	"encoding/binary"
	"slices"

	"sargasso/api"
	"sargasso/spend"
)

// someHash is a digest of bytes that are all unlike, another one for each n.
func someHash(n int) (h api.Hash) {
	for i := range h {
		h[i] = byte(5*i + 11*n + 1)
	}
	return h
}

// someKey is a key of n bytes, no two beside each other the same.
func someKey(n int) []byte {
	key := make([]byte, n)
	for i := range key {
		key[i] = byte(7*i + n + 1)
	}
	return key
}

// someIn is an In with a Key of so many bytes, another place for each n.
func someIn(n, key int) api.In {
	return api.In{
		From: api.Point{Tx: someHash(n), N: uint32(0x01020304 + n)},
		Key:  someKey(key),
		Seq:  uint32(0xfffffffe - n),
	}
}

// someOut is an Out, another one for each n.
func someOut(n int) api.Out {
	return api.Out{Value: uint64(0x010203040506 + n), Lock: someHash(n + 100)}
}

// sized is a transaction of so many Ins, with Keys of so many bytes each, and so many Outs.
func sized(ins, key, outs int) api.Tx {
	t := api.Tx{Version: 0x05060708, Time: 0x0a0b0c0d}
	for i := range ins {
		t.Ins = append(t.Ins, someIn(i, key))
	}
	for i := range outs {
		t.Outs = append(t.Outs, someOut(i))
	}
	return t
}

// nullIn is an In that spends nothing, with a Key of so many bytes.
func nullIn(key int) api.In {
	return api.In{From: spend.Null(), Key: someKey(key), Seq: api.Final}
}

// based is a transaction that makes new coins, with a Key of so many bytes.
func based(key int) api.Tx {
	return api.Tx{Version: 1, Ins: []api.In{nullIn(key)}, Outs: []api.Out{someOut(1)}}
}

// changed is a copy of t with a change made to it.
func changed(t api.Tx, change func(t *api.Tx)) api.Tx {
	out := copied(t)
	change(&out)
	return out
}

// copied is t in new memory, worked out beside the package.
func copied(t api.Tx) api.Tx {
	out := api.Tx{Version: t.Version, Time: t.Time}
	for _, in := range t.Ins {
		out.Ins = append(out.Ins, api.In{From: in.From, Key: append([]byte{}, in.Key...), Seq: in.Seq})
	}
	out.Outs = append(out.Outs, t.Outs...)
	return out
}

// equal holds two transactions against each other field by field; nil and the empty list are the same.
func equal(a, b api.Tx) bool {
	ins := slices.EqualFunc(a.Ins, b.Ins, func(x, y api.In) bool {
		return x.From == y.From && bytes.Equal(x.Key, y.Key) && x.Seq == y.Seq
	})
	return a.Version == b.Version && ins && slices.Equal(a.Outs, b.Outs) && a.Time == b.Time
}

// written is what Bytes of t should be, worked out beside the package.
func written(t api.Tx) []byte {
	order := binary.LittleEndian
	b := order.AppendUint32(nil, t.Version)
	b = counted(b, len(t.Ins))
	for _, in := range t.Ins {
		b = append(b, in.From.Tx[:]...)
		b = order.AppendUint32(b, in.From.N)
		b = counted(b, len(in.Key))
		b = append(b, in.Key...)
		b = order.AppendUint32(b, in.Seq)
	}
	b = counted(b, len(t.Outs))
	for _, out := range t.Outs {
		b = order.AppendUint64(b, out.Value)
		b = append(b, out.Lock[:]...)
	}
	return order.AppendUint32(b, t.Time)
}

// counted is b and behind it a count in the fewest bytes.
func counted(b []byte, n int) []byte {
	order := binary.LittleEndian
	switch {
	case n < 253:
		return append(b, byte(n))
	case n < 1<<16:
		return order.AppendUint16(append(b, 253), uint16(n))
	}
	return order.AppendUint32(append(b, 254), uint32(n))
}

// readable are transactions that Read takes: the least and the most of all, and some that Check does not take.
func readable() map[string]api.Tx {
	return map[string]api.Tx{
		"the zero value":          {},
		"no Ins":                  sized(0, 0, 3),
		"no Outs":                 sized(3, 5, 0),
		"one of each":             sized(1, 33, 1),
		"a Key of no bytes":       sized(1, 0, 1),
		"Keys of MaxKey":          sized(3, api.MaxKey, 2),
		"the most Ins":            sized(api.MaxIns, 1, 1),
		"the most Outs":           sized(1, 1, api.MaxOuts),
		"the most of all":         sized(api.MaxIns, api.MaxKey, api.MaxOuts),
		"unlike Keys":             {Ins: []api.In{someIn(1, 0), someIn(2, 80), someIn(3, 1)}, Outs: []api.Out{{}}},
		"the greatest numbers":    {Version: 1<<32 - 1, Ins: []api.In{{From: api.Point{N: 1<<32 - 1}, Seq: 1<<32 - 1}}, Outs: []api.Out{{Value: 1<<64 - 1}}, Time: 1<<32 - 1},
		"amounts that can't be":   {Ins: []api.In{someIn(1, 2)}, Outs: []api.Out{{Value: api.MaxMoney}, {Value: api.MaxMoney + 1}}},
		"one From twice":          {Ins: []api.In{someIn(1, 2), someIn(1, 3)}, Outs: []api.Out{someOut(1)}},
		"a null In beside others": {Ins: []api.In{someIn(1, 2), nullIn(4)}, Outs: []api.Out{someOut(1)}},
		"a null In alone":         based(0),
	}
}

// anySize are transactions that no Read takes; Bytes is of any.
func anySize() map[string]api.Tx {
	return map[string]api.Tx{
		"MaxIns and one":        sized(api.MaxIns+1, 1, 1),
		"MaxOuts and one":       sized(1, 1, api.MaxOuts+1),
		"a Key of MaxKey + 1":   sized(1, api.MaxKey+1, 1),
		"252 of each":           sized(252, 252, 252),
		"253 of each":           sized(253, 253, 253),
		"300 of each":           sized(300, 300, 300),
		"a Key of 65,535 bytes": sized(1, 1<<16-1, 1),
		"a Key of 65,536 bytes": sized(1, 1<<16, 1),
		"65,535 of each":        sized(1<<16-1, 0, 1<<16-1),
		"65,536 of each":        sized(1<<16, 0, 1<<16),
	}
}

// roomy is t in lists with other things behind their lengths, and a call that tells whether all of that memory is as it was.
func roomy(t api.Tx) (api.Tx, func() bool) {
	const room = 5
	outs := append(slices.Clone(t.Outs), slices.Repeat([]api.Out{{Value: 77, Lock: someHash(77)}}, room)...)
	ins := append(copied(t).Ins, slices.Repeat([]api.In{{From: api.Point{Tx: someHash(78), N: 78}, Seq: 78}}, room)...)
	wasOuts, wasIns := slices.Clone(outs), slices.Clone(ins)
	var keys, wasKeys [][]byte
	for i := range t.Ins {
		key := append(slices.Clone(ins[i].Key), bytes.Repeat([]byte{0xee}, room)...)
		keys, wasKeys = append(keys, key), append(wasKeys, slices.Clone(key))
		ins[i].Key = key[:len(t.Ins[i].Key)]
	}
	as := func() bool {
		sameIns := slices.EqualFunc(ins, wasIns, func(x, y api.In) bool {
			return x.From == y.From && bytes.Equal(x.Key, y.Key) && x.Seq == y.Seq
		})
		return sameIns && slices.Equal(outs, wasOuts) && slices.EqualFunc(keys, wasKeys, bytes.Equal)
	}
	return api.Tx{Version: t.Version, Ins: ins[:len(t.Ins)], Outs: outs[:len(t.Outs)], Time: t.Time}, as
}

// spoil writes over all that lies in t's lists, their spare room too.
func spoil(t api.Tx) {
	for _, in := range t.Ins {
		key := in.Key[:cap(in.Key)]
		for i := range key {
			key[i] ^= 0xff
		}
	}
	ins := t.Ins[:cap(t.Ins)]
	for i := range ins {
		ins[i] = api.In{From: api.Point{N: 0xdead}, Seq: 0xdead}
	}
	outs := t.Outs[:cap(t.Outs)]
	for i := range outs {
		outs[i] = api.Out{Value: 0xdead}
	}
}
