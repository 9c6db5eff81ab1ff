package undo

import (
	"sargasso/api"
	"sargasso/compact"
)

const (
	spentSize = 32 + 4 + 8 + 32 + 4 + 1 // bytes of a coin with its place
	mostRead  = 10000                   // coins that Read takes
)

// Bytes is l written down. Of each Height the lowest 32 bits are told.
func Bytes(l []api.Spent) []byte {
	count := compact.Put(nil, uint64(len(l)))
	b := make([]byte, 0, len(count)+spentSize*len(l))
	b = append(b, count...)
	for _, c := range l {
		b = append(b, spentBytes(c)...)
	}
	return b
}

// spentBytes is a coin with its place, written down.
func spentBytes(c api.Spent) []byte {
	b := compact.Four(c.At.Tx[:], c.At.N)
	b = compact.Eight(b, c.Coin.Value)
	b = append(b, c.Coin.Lock[:]...)
	b = compact.Four(b, uint32(c.Coin.Height))
	if c.Coin.Base {
		return append(b, 1)
	}
	return append(b, 0)
}

// Read is what b, all of it, is the Bytes of.
func Read(b []byte) ([]api.Spent, error) {
	r := compact.Read(b)
	var l []api.Spent
	for range r.Num(mostRead) {
		c, err := take(r)
		if err != nil {
			return nil, err
		}
		l = append(l, c)
	}
	switch {
	case r.Err() != nil:
		return nil, r.Err()
	case r.Left() > 0:
		return nil, api.ErrShape
	}
	return l, nil
}

// take reads a coin with its place from r.
func take(r *compact.Reader) (c api.Spent, err error) {
	c.At.Tx = r.Hash()
	c.At.N = r.Four()
	c.Coin.Value = r.Eight()
	c.Coin.Lock = r.Hash()
	c.Coin.Height = int(r.Four())
	base := r.Bytes(1)
	switch {
	case r.Err() != nil:
		return api.Spent{}, r.Err()
	case base[0] > 1:
		return api.Spent{}, api.ErrShape
	}
	c.Coin.Base = base[0] == 1
	return c, nil
}
