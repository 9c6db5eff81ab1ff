package conn

import (
	"sargasso/api"
	"sargasso/seq"
	"sargasso/value"
)

// coinsOf are the coins that t's Ins spend, all of which have to be there, and ripe.
func coinsOf(t api.Tx, get Coins, height, maturity int) ([]api.Money, error) {
	spent := make([]api.Money, 0, len(t.Ins))
	for i, in := range t.Ins {
		c, is := get.Get(in.From)
		if !is {
			return nil, &api.At{Pos: i, Err: api.ErrMissing}
		}
		if !value.Ripe(c, height, maturity) {
			return nil, &api.At{Pos: i, Err: api.ErrYoung}
		}
		spent = append(spent, c)
	}
	return spent, nil
}

// early tells whether t, which spends these coins, one an In, comes too early for the block on top of pasts.
func early(t api.Tx, spent []api.Money, pasts []uint32) bool {
	height := len(pasts)
	last := pasts[height-1]
	heights := make([]int, 0, len(spent))
	below := make([]uint32, 0, len(spent))
	for _, c := range spent {
		heights = append(heights, c.Height)
		below = append(below, pastBelow(c.Height, pasts))
	}
	return !seq.Final(t, height, last) || !seq.Met(t, heights, below, height, last)
}

// pastBelow is the past of the block right below height, or of the nearest one that there is.
func pastBelow(height int, pasts []uint32) uint32 {
	// Held between the bounds ahead of the step down, which the least height can't take.
	return pasts[min(max(height, 1), len(pasts))-1]
}
