package chain

import "sargasso/api"

// settle goes to the best block, until it is the tip: a way that leads nowhere marks a block, so that another one is the best. Its answer is why the block that goes by id is marked, if it is.
func (c *Chain) settle(id api.Hash) error {
	var why error
	for c.marks.Best() != c.Tip() {
		at, err := c.goTo(c.marks.Best())
		if err == nil {
			continue
		}
		// The way need not be gone back by itself: the best of the others is the tip that was, and the next way leads there.
		c.marks.Bad(at)
		if at == id {
			why = err
		}
	}
	if why == nil && c.marks.Is(id) {
		return api.ErrInvalid
	}
	return why
}

// goTo makes the block that goes by id the tip. Where one on the way can't be put on it stays below that, and its answer is that one, and why.
func (c *Chain) goTo(id api.Hash) (api.Hash, error) {
	back, on, _ := c.tree.Path(c.Tip(), id)
	for _, x := range back {
		c.branch.takeBack(c.blocks[x])
	}
	for _, x := range on {
		if err := c.branch.put(c.tree, c.blocks[x], c.rules); err != nil {
			return x, err
		}
	}
	return api.Hash{}, nil
}
