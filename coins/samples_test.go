package coins_test

import (
	"bytes"
	"crypto/sha256"
	"encoding/binary"
	"math"
	"slices"
	"testing"

	"sargasso/api"
	"sargasso/coins"
)

// someHash is a digest of unlike bytes.
func someHash(n byte) (h api.Hash) {
	for i := range h {
		h[i] = n + 5*byte(i)
	}
	return h
}

// some are coins of unlike fields, in the order in which All has them.
func some() []api.Spent {
	last := api.Hash(bytes.Repeat([]byte{0xff}, 32))
	return []api.Spent{
		{At: api.Point{}, Coin: api.Money{Value: 1}},
		{At: api.Point{N: 1}, Coin: api.Money{Lock: someHash(1)}},
		{At: api.Point{N: math.MaxUint32}, Coin: api.Money{Value: 300, Base: true}},
		{At: api.Point{Tx: api.Hash{31: 1}}, Coin: api.Money{Height: 1}},
		{At: api.Point{Tx: api.Hash{31: 255}, N: 7}},
		{At: api.Point{Tx: api.Hash{30: 1}, N: 6}, Coin: api.Money{Value: api.MaxMoney, Lock: someHash(2), Height: api.MaxHeight, Base: true}},
		{At: api.Point{Tx: api.Hash{1}, N: 255}, Coin: api.Money{Value: 5 * api.Coin, Lock: someHash(3), Height: 256}},
		{At: api.Point{Tx: api.Hash{1}, N: 256}, Coin: api.Money{Value: 1 << 50, Lock: someHash(4), Height: -1}},
		{At: api.Point{Tx: api.Hash{1}, N: 1 << 16}, Coin: api.Money{Value: 0x01020304050607, Height: math.MinInt, Base: true}},
		{At: api.Point{Tx: api.Hash{1}, N: math.MaxInt32}, Coin: api.Money{Value: 2, Height: math.MaxInt}},
		{At: api.Point{Tx: api.Hash{1}, N: 1 << 31}, Coin: api.Money{Value: 2, Height: 1 << 33}},
		{At: api.Point{Tx: api.Hash{1, 1}}, Coin: api.Money{Value: 2, Height: 0x01020304}},
		{At: api.Point{Tx: api.Hash{0x7f}}, Coin: api.Money{Value: 3}},
		{At: api.Point{Tx: api.Hash{0x80}}, Coin: api.Money{Value: 3, Height: 1 << 31}},
		{At: api.Point{Tx: last}, Coin: api.Money{Value: 4, Height: math.MaxUint32}},
		{At: api.Point{Tx: last, N: math.MaxUint32}, Coin: api.Money{Lock: last, Height: 1 << 32, Base: true}},
	}
}

// absent are places where some has no coin, each beside one where it has.
func absent() []api.Point {
	return []api.Point{
		{N: 2},
		{N: math.MaxUint32 - 1},
		{Tx: api.Hash{31: 1}, N: 1},
		{Tx: api.Hash{31: 2}},
		{Tx: api.Hash{1}},
		{Tx: api.Hash{1}, N: 257},
		{Tx: api.Hash{1, 1}, N: 255},
		{Tx: api.Hash{0x81}},
		{Tx: someHash(1)},
	}
}

// setOf is a Set of l, added in its order.
func setOf(t *testing.T, l []api.Spent) *coins.Set {
	t.Helper()
	s := &coins.Set{}
	for _, c := range l {
		if err := s.Add(c.At, c.Coin); err != nil {
			t.Fatalf("Add at %v: %v", c.At, err)
		}
	}
	return s
}

// without is l in new memory, but for the one at i.
func without(l []api.Spent, i int) []api.Spent {
	return slices.Delete(slices.Clone(l), i, i+1)
}

// sumOf is the digest of l, written as the chapter tells it.
func sumOf(l []api.Spent) api.Hash {
	var b []byte
	for _, c := range l {
		b = append(b, c.At.Tx[:]...)
		b = binary.LittleEndian.AppendUint32(b, c.At.N)
		b = binary.LittleEndian.AppendUint64(b, c.Coin.Value)
		b = append(b, c.Coin.Lock[:]...)
		b = binary.LittleEndian.AppendUint32(b, uint32(c.Coin.Height))
		base := byte(0)
		if c.Coin.Base {
			base = 1
		}
		b = append(b, base)
	}
	return sha256.Sum256(b)
}

// expect asks that s has l, which stands in All's order, and nothing else.
func expect(t *testing.T, what string, s *coins.Set, l []api.Spent) {
	t.Helper()
	var total uint64
	for _, c := range l {
		total += c.Coin.Value
		if got, is := s.Get(c.At); !is || got != c.Coin {
			t.Errorf("%s: at %v is %v, %v", what, c.At, got, is)
		}
	}
	if n := s.Len(); n != len(l) {
		t.Errorf("%s: %d coins, not %d", what, n, len(l))
	}
	if got := s.Total(); got != total {
		t.Errorf("%s: a total of %d, not %d", what, got, total)
	}
	if all := s.All(); !slices.Equal(all, l) {
		t.Errorf("%s: All is %v, not %v", what, all, l)
	}
	if got := s.Sum(); got != sumOf(l) {
		t.Errorf("%s: a Sum of %x", what, got)
	}
}

// expectNone asks that s has no coin at p: neither to get nor to spend.
func expectNone(t *testing.T, what string, s *coins.Set, p api.Point) {
	t.Helper()
	if c, is := s.Get(p); is || c != (api.Money{}) {
		t.Errorf("%s: at %v is %v, %v", what, p, c, is)
	}
	if c, err := s.Spend(p); err != api.ErrMissing || c != (api.Money{}) {
		t.Errorf("%s: Spend at %v: %v, %v", what, p, c, err)
	}
}
