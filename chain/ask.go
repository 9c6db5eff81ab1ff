package chain

import (
	"slices"

	"sargasso/api"
	"sargasso/block"
	"sargasso/coins"
)

// Tip is the last block of the branch that counts.
func (c *Chain) Tip() api.Hash {
	return c.branch.ids[c.Height()]
}

// Height is how far the tip stands above the start.
func (c *Chain) Height() int {
	return len(c.branch.ids) - 1
}

// Past is the time that has passed, as the tip's branch tells it.
func (c *Chain) Past() uint32 {
	return c.branch.pasts[c.Height()]
}

// Pasts are the Past of each block of the tip's branch, from the start on.
func (c *Chain) Pasts() []uint32 {
	return slices.Clone(c.branch.pasts)
}

// Coins are those that the tip's branch leaves, in a set that goes its own way.
func (c *Chain) Coins() *coins.Set {
	return c.branch.coins.Clone()
}

// Branch is the tip's branch, from the start on.
func (c *Chain) Branch() []api.Hash {
	return slices.Clone(c.branch.ids)
}

// Block is the block that goes by id, if it was taken in: on whatever branch, marked or not.
func (c *Chain) Block(id api.Hash) (api.Block, bool) {
	b, is := c.blocks[id]
	return block.Clone(b), is
}

// Bad are the blocks that are marked, in the order of digest.Less.
func (c *Chain) Bad() []api.Hash {
	return c.marks.All()
}

// On tells whether the block that goes by id is on the tip's branch.
func (c *Chain) On(id api.Hash) bool {
	height, is := c.tree.Height(id)
	return is && height <= c.Height() && c.branch.ids[height] == id
}
