package coins_test

import (
	"encoding/hex"
	"math"
	"slices"
	"testing"

	"sargasso/api"
	"sargasso/coins"
	"sargasso/digest"
	"sargasso/spend"
)

// P8.1: All stands by spend.Less, and Sum is the same, in whatever order the coins came.
func TestOrder(t *testing.T) {
	for turn := range some() {
		for _, backward := range []bool{false, true} {
			l := slices.Concat(some()[turn:], some()[:turn])
			if backward {
				slices.Reverse(l)
			}
			s := setOf(t, l)
			for range 3 {
				expect(t, "in another order", s, some())
			}
		}
	}
	l := setOf(t, some()).All()
	for i := range l[1:] {
		if !spend.Less(l[i].At, l[i+1].At) {
			t.Errorf("%v stands ahead of %v", l[i].At, l[i+1].At)
		}
	}
}

// P8.1, P0.5: All and Sum hang on the coins that are there, not on those that have been.
func TestOrderBehindSpend(t *testing.T) {
	for i, c := range some() {
		s := setOf(t, some())
		if _, err := s.Spend(c.At); err != nil {
			t.Error(err)
		}
		if err := s.Add(c.At, c.Coin); err != nil {
			t.Error(err)
		}
		expect(t, "taken away and put back", s, some())
		if _, err := s.Spend(c.At); err != nil {
			t.Error(err)
		}
		if l := without(some(), i); s.Sum() != setOf(t, l).Sum() {
			t.Errorf("without %v: another Sum than of what never had it", c.At)
		}
	}
}

// P8.1, P0.4: All is new memory each time, spare room too.
func TestAllIsNewMemory(t *testing.T) {
	s := setOf(t, some())
	first, second := s.All(), s.All()
	clear(first[:cap(first)])
	_ = append(first, api.Spent{At: api.Point{N: 5}})
	if !slices.Equal(second, some()) {
		t.Error("a write into one answer is seen in another one")
	}
	expect(t, "behind a write into All", s, some())
	expect(t, "a Clone behind a write into All", s.Clone(), some())
}

// P8.1: Sum of coins whose digest is known.
func TestSumOfKnownCoins(t *testing.T) {
	var nines, rising api.Hash
	for i := range nines {
		nines[i], rising[i] = 9, byte(i)
	}
	s := setOf(t, []api.Spent{
		{At: api.Point{Tx: api.Hash{1}, N: 256}, Coin: api.Money{Value: api.MaxMoney, Height: -1}},
		{At: api.Point{Tx: api.Hash{1}, N: 255}, Coin: api.Money{Value: 5, Lock: nines, Height: 7, Base: true}},
		{At: api.Point{Tx: api.Hash{31: 2}, N: math.MaxUint32}, Coin: api.Money{Lock: rising, Height: 1<<33 + 3}},
	})
	sum := s.Sum()
	if got := hex.EncodeToString(sum[:]); got != "d07d3ed96bd40cedceb3c4af3b1504bc55252da84a61ab2df48c49149d049a71" {
		t.Errorf("Sum of three coins: %s", got)
	}
	none := new(coins.Set).Sum()
	if got := hex.EncodeToString(none[:]); got != "e3b0c44298fc1c149afbf4c8996fb92427ae41e4649b934ca495991b7852b855" || none != digest.Sha(nil) {
		t.Errorf("Sum of none: %s", got)
	}
}

// P8.1: Sum of one coin, whose bytes are written out.
func TestSumOfOne(t *testing.T) {
	s := setOf(t, []api.Spent{{
		At:   api.Point{Tx: someHash(1), N: 0x01020304},
		Coin: api.Money{Value: 0x0007060504030201, Lock: someHash(2), Height: 0x0a0b0c0d, Base: true},
	}})
	tx, lock := someHash(1), someHash(2)
	b := slices.Concat(tx[:], []byte{4, 3, 2, 1}, []byte{1, 2, 3, 4, 5, 6, 7, 0}, lock[:], []byte{0x0d, 0x0c, 0x0b, 0x0a, 1})
	if got := s.Sum(); got != digest.Sha(b) {
		t.Errorf("Sum of one coin: %x", got)
	}
}

// P8.1: a coin that is unlike in anything makes another Sum; so does one more, or one less.
func TestSumTellsAll(t *testing.T) {
	changes := map[string]func(c *api.Spent){
		"Tx":           func(c *api.Spent) { c.At.Tx[5]++ },
		"N":            func(c *api.Spent) { c.At.N += 1000 },
		"N at the top": func(c *api.Spent) { c.At.N ^= 1 << 30 },
		"Value":        func(c *api.Spent) { c.Coin.Value ^= 1 },
		"Value's high": func(c *api.Spent) { c.Coin.Value ^= 1 << 40 },
		"Lock":         func(c *api.Spent) { c.Coin.Lock[31]++ },
		"Height":       func(c *api.Spent) { c.Coin.Height ^= 1 },
		"Height's top": func(c *api.Spent) { c.Coin.Height ^= 1 << 31 },
		"Base":         func(c *api.Spent) { c.Coin.Base = !c.Coin.Base },
	}
	sum := setOf(t, some()).Sum()
	for what, change := range changes {
		for i := range some() {
			l := some()
			change(&l[i])
			if l[i].Coin.Value > api.MaxMoney {
				continue
			}
			if setOf(t, l).Sum() == sum {
				t.Errorf("another %s of number %d: the same Sum", what, i)
			}
		}
	}
	for i := range some() {
		if setOf(t, without(some(), i)).Sum() == sum {
			t.Errorf("without number %d: the same Sum", i)
		}
	}
	for _, p := range absent() {
		if setOf(t, append(some(), api.Spent{At: p})).Sum() == sum {
			t.Errorf("with one at %v: the same Sum", p)
		}
	}
}

// P8.1: Sum has 32 bits of a Height; Get, All and Spend have all of it.
func TestHeightAbove32Bits(t *testing.T) {
	for _, height := range []int{0, 1, 5, math.MaxInt32, 1 << 31, math.MaxUint32} {
		low := []api.Spent{{At: api.Point{N: 1}, Coin: api.Money{Height: height}}}
		sum := setOf(t, low).Sum()
		for _, more := range []int{1 << 32, 1 << 33, 1 << 62, -1 << 32, math.MinInt} {
			high := []api.Spent{{At: api.Point{N: 1}, Coin: api.Money{Height: height + more}}}
			s := setOf(t, high)
			expect(t, "a height above 32 bits", s, high)
			if s.Sum() != sum {
				t.Errorf("heights %d and %d: two Sums", height, height+more)
			}
			if c, err := s.Spend(api.Point{N: 1}); err != nil || c.Height != height+more {
				t.Errorf("height %d: %v, %v", height+more, c, err)
			}
		}
	}
}

// P8.1: asking changes nothing.
func TestAskingChangesNothing(t *testing.T) {
	s := setOf(t, some())
	for range 2 {
		for _, c := range some() {
			s.Get(c.At)
		}
		for _, p := range absent() {
			s.Get(p)
		}
		s.Len()
		s.Total()
		s.All()
		s.Sum()
		s.Clone()
		expect(t, "asked", s, some())
	}
}
