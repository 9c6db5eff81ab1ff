package value_test

import (
	"math"
	"testing"

	"sargasso/api"
	"sargasso/spend"
	"sargasso/value"
)

// expectRipe asks for Ripe.
func expectRipe(t *testing.T, want bool, c api.Money, height, maturity int) {
	t.Helper()
	if got := value.Ripe(c, height, maturity); got != want {
		t.Errorf("Ripe of Base %v, Height %d, at height %d, maturity %d: %v", c.Base, c.Height, height, maturity, got)
	}
}

// P15.1: what is not Base is ripe at once, and at any height.
func TestRipeOfOthers(t *testing.T) {
	for _, at := range []int{0, 1, 100, 1 << 30} {
		for _, height := range []int{math.MinInt, -1, 0, 1, 99, 100, math.MaxInt} {
			for _, maturity := range []int{0, 1, 100, 1 << 30} {
				expectRipe(t, true, api.Money{Height: at}, height, maturity)
			}
		}
	}
}

// P15.1: Base is ripe from its Height and maturity on.
func TestRipeOfBase(t *testing.T) {
	for _, at := range []int{0, 1, 5, 100, 1 << 20, 1<<30 - 1, 1 << 30} {
		for _, maturity := range []int{0, 1, 2, 100, 1000, 1<<30 - 1, 1 << 30} {
			c := api.Money{Height: at, Base: true}
			first := at + maturity
			for _, height := range []int{first, first + 1, first + 2, first + 1000, math.MaxInt} {
				expectRipe(t, true, c, height, maturity)
			}
			for _, height := range []int{first - 1, first - 2, first/2 - 1, -1, -2, -1 << 32, math.MinInt + 1, math.MinInt} {
				expectRipe(t, false, c, height, maturity)
			}
		}
	}
}

// P15.1: each small number, the maturity of 0 among them: it is ripe in its own block then, and not below it.
func TestRipeOfSmallNumbers(t *testing.T) {
	for at := range 12 {
		for maturity := range 12 {
			for height := -3; height < 30; height++ {
				expectRipe(t, height-at >= maturity, api.Money{Height: at, Base: true}, height, maturity)
				expectRipe(t, true, api.Money{Height: at}, height, maturity)
			}
		}
	}
}

// P15.1: neither Value nor Lock is asked.
func TestRipeAsksNothingElse(t *testing.T) {
	for _, n := range []uint64{0, 1, api.MaxMoney, api.MaxMoney + 1, math.MaxUint64} {
		c := api.Money{Value: n, Lock: spend.Lock(key(1)), Height: 7, Base: true}
		expectRipe(t, false, c, 16, 10)
		expectRipe(t, true, c, 17, 10)
		c.Base = false
		expectRipe(t, true, c, 0, 10)
	}
}
