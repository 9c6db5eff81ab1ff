package tx

import (
	"sargasso/api"
	"sargasso/compact"
)

const (
	ownSize = 4 + 4      // bytes of Version and Time
	inSize  = 32 + 4 + 4 // bytes of an In without its Key and the Key's length
	outSize = 8 + 32     // bytes of an Out
)

// Bytes is t written down.
func Bytes(t api.Tx) []byte {
	// Each piece is written apart and added here: compact copies all that it is handed, again for each number.
	b := make([]byte, 0, Size(t))
	b = append(b, compact.Four(nil, t.Version)...)
	b = append(b, compact.Put(nil, uint64(len(t.Ins)))...)
	for _, in := range t.Ins {
		b = append(b, inBytes(in)...)
	}
	b = append(b, compact.Put(nil, uint64(len(t.Outs)))...)
	for _, out := range t.Outs {
		b = append(b, outBytes(out)...)
	}
	return append(b, compact.Four(nil, t.Time)...)
}

// inBytes is an In written down.
func inBytes(in api.In) []byte {
	b := compact.Four(in.From.Tx[:], in.From.N)
	b = compact.Put(b, uint64(len(in.Key)))
	b = append(b, in.Key...)
	return compact.Four(b, in.Seq)
}

// outBytes is an Out written down.
func outBytes(out api.Out) []byte {
	return append(compact.Eight(nil, out.Value), out.Lock[:]...)
}

// Size is how many bytes Bytes writes t in.
func Size(t api.Tx) int {
	size := ownSize + compact.Len(uint64(len(t.Ins))) + compact.Len(uint64(len(t.Outs)))
	for _, in := range t.Ins {
		size += inSize + compact.Len(uint64(len(in.Key))) + len(in.Key)
	}
	return size + outSize*len(t.Outs)
}

// Read is the transaction that b, all of it, is the Bytes of.
func Read(b []byte) (api.Tx, error) {
	r := compact.Read(b)
	t := Take(r)
	if r.Err() == nil && r.Left() > 0 {
		return api.Tx{}, api.ErrShape
	}
	return t, r.Err()
}

// Take reads a transaction from r; the zero value where r has met an error, before or now.
func Take(r *compact.Reader) api.Tx {
	var t api.Tx
	t.Version = r.Four()
	for range r.Num(api.MaxIns) {
		t.Ins = append(t.Ins, takeIn(r))
	}
	for range r.Num(api.MaxOuts) {
		t.Outs = append(t.Outs, takeOut(r))
	}
	t.Time = r.Four()
	if r.Err() != nil {
		return api.Tx{}
	}
	return t
}

// takeIn reads an In from r.
func takeIn(r *compact.Reader) (in api.In) {
	in.From.Tx = r.Hash()
	in.From.N = r.Four()
	in.Key = r.Bytes(int(r.Num(api.MaxKey)))
	in.Seq = r.Four()
	return in
}

// takeOut reads an Out from r.
func takeOut(r *compact.Reader) (out api.Out) {
	out.Value = r.Eight()
	out.Lock = r.Hash()
	return out
}
