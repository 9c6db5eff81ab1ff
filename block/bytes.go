package block

import (
	"sargasso/api"
	"sargasso/compact"
	"sargasso/head"
	"sargasso/tx"
)

// Bytes is b written down.
func Bytes(b api.Block) []byte {
	out := make([]byte, 0, Size(b))
	out = append(out, head.Bytes(b.Head)...)
	out = append(out, compact.Put(nil, uint64(len(b.Txs)))...)
	for _, t := range b.Txs {
		out = append(out, tx.Bytes(t)...)
	}
	return out
}

// Size is how many bytes Bytes writes b in.
func Size(b api.Block) int {
	size := head.Size + compact.Len(uint64(len(b.Txs)))
	for _, t := range b.Txs {
		size += tx.Size(t)
	}
	return size
}

// Read is the block that x, all of it, is the Bytes of.
func Read(x []byte) (api.Block, error) {
	r := compact.Read(x)
	b := take(r)
	switch {
	case r.Err() != nil:
		return api.Block{}, r.Err()
	case r.Left() > 0:
		return api.Block{}, api.ErrShape
	}
	return b, nil
}

// take reads a block from r; a part of one where r meets an error.
func take(r *compact.Reader) (b api.Block) {
	b.Head = head.Take(r)
	for range r.Num(api.MaxTxs) {
		b.Txs = append(b.Txs, tx.Take(r))
	}
	return b
}
