package value_test

import (
	"math"
	"testing"

	"sargasso/api"
	"sargasso/value"
)

// expectReward asks for Reward.
func expectReward(t *testing.T, want uint64, height, halving int) {
	t.Helper()
	if got := value.Reward(height, halving); got != want {
		t.Errorf("Reward(%d, %d): %d, not %d", height, halving, got, want)
	}
}

// rewards are the reward after each number of halvings up to 34, written out.
func rewards() []uint64 {
	return []uint64{
		5000000000, 2500000000, 1250000000, 625000000, 312500000, 156250000, 78125000, 39062500, 19531250, 9765625,
		4882812, 2441406, 1220703, 610351, 305175, 152587, 76293, 38146, 19073, 9536,
		4768, 2384, 1192, 596, 298, 149, 74, 37, 18, 9,
		4, 2, 1, 0, 0,
	}
}

// P15.1: it is 50 Coin, and half of it, rounded down, from each multiple of halving on.
func TestRewardOfEachHalving(t *testing.T) {
	for _, halving := range []int{1, 2, 3, 10, 150, 210000, api.MaxHeight, 1 << 40} {
		for n, want := range rewards() {
			expectReward(t, want, n*halving, halving)
			expectReward(t, want, n*halving+halving/2, halving)
			expectReward(t, want, n*halving+halving-1, halving)
		}
	}
}

// P15.1: each height of a short chain, held against halving it step by step.
func TestRewardStepByStep(t *testing.T) {
	for halving := 1; halving < 30; halving++ {
		want, left := uint64(50*100000000), halving
		for height := range 2200 {
			if left == 0 {
				want, left = want/2, halving
			}
			left--
			expectReward(t, want, height, halving)
		}
	}
}

// P15.1: halved 64 times or more it is 0, however often; it does not come again.
func TestRewardOfManyHalvings(t *testing.T) {
	for times := 33; times < 600; times++ {
		expectReward(t, 0, times, 1)
		expectReward(t, 0, times*7, 7)
		expectReward(t, 0, times*7+6, 7)
	}
	for shift := 6; shift < 63; shift++ {
		expectReward(t, 0, 1<<shift, 1)
		expectReward(t, 0, 1<<shift+1, 1)
	}
	expectReward(t, 0, math.MaxInt, 1)
	expectReward(t, 0, math.MaxInt, 2)
}

// P15.1: below the first multiple of halving nothing is halved, however great both are.
func TestRewardOfGreatNumbers(t *testing.T) {
	expectReward(t, 5000000000, 0, math.MaxInt)
	expectReward(t, 5000000000, math.MaxInt-1, math.MaxInt)
	expectReward(t, 2500000000, math.MaxInt, math.MaxInt)
	expectReward(t, 2500000000, math.MaxInt, math.MaxInt-1)
	expectReward(t, 5000000000, 1<<32-1, 1<<32)
	expectReward(t, 2500000000, 1<<32, 1<<32)
	expectReward(t, 5000000000, api.MaxHeight-1, api.MaxHeight)
	expectReward(t, 2500000000, api.MaxHeight, api.MaxHeight)
}

// P15.1: a height below 0 and a halving below 1 are 0, also both together.
func TestRewardOfWrongNumbers(t *testing.T) {
	low := []int{-1, -2, -10, -1 << 32, math.MinInt + 1, math.MinInt}
	for _, n := range low {
		for _, halving := range []int{1, 2, 10, math.MaxInt} {
			expectReward(t, 0, n, halving)
		}
		for _, height := range []int{0, 1, 10, math.MaxInt} {
			expectReward(t, 0, height, n)
			expectReward(t, 0, height, 0)
		}
		for _, halving := range low {
			expectReward(t, 0, n, halving)
		}
		expectReward(t, 0, n, 0)
	}
}
