package coins

import (
	"slices"

	"sargasso/api"
	"sargasso/digest"
	"sargasso/spend"
)

// All are the coins with their places, in the order of spend.Less.
func (s *Set) All() []api.Spent {
	all := make([]api.Spent, 0, len(s.coins))
	for p, c := range s.coins {
		all = append(all, api.Spent{At: p, Coin: c})
	}
	slices.SortFunc(all, byPlace)
	return all
}

// Sum is the digest of All, written one behind another.
func (s *Set) Sum() api.Hash {
	var w digest.Writer
	for _, c := range s.All() {
		w.Write(written(c))
	}
	return w.Sum()
}

// byPlace is below 0 where a stands ahead of b, above 0 where b stands ahead of a.
func byPlace(a, b api.Spent) int {
	switch {
	case spend.Less(a.At, b.At):
		return -1
	case spend.Less(b.At, a.At):
		return 1
	}
	return 0
}

// written is c as Sum reads it. Of its Height the lowest 32 bits are told.
func written(c api.Spent) []byte {
	b := slices.Clone(c.At.Tx[:])
	b = lowestFirst(b, uint64(c.At.N), 4)
	b = lowestFirst(b, c.Coin.Value, 8)
	b = append(b, c.Coin.Lock[:]...)
	b = lowestFirst(b, uint64(c.Coin.Height), 4)
	if c.Coin.Base {
		return append(b, 1)
	}
	return append(b, 0)
}

// lowestFirst is b and the lowest bytes of n, so many as width says.
func lowestFirst(b []byte, n uint64, width int) []byte {
	for range width {
		b = append(b, byte(n))
		n >>= 8
	}
	return b
}
