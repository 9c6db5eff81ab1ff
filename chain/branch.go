package chain

import (
	"sargasso/api"
	"sargasso/block"
	"sargasso/coins"
	"sargasso/conn"
	"sargasso/past"
	"sargasso/tree"
)

// branch is blocks of a tree, each on the one ahead, from the start on, and what they leave.
type branch struct {
	ids   []api.Hash
	pasts []uint32      // past.Of each
	taken [][]api.Spent // what each took
	coins coins.Set
}

// begun is the branch of t's start alone. What the start makes is no coin.
func begun(t *tree.Tree) branch {
	id := t.Start()
	first, _ := past.Of(t, id)
	return branch{ids: []api.Hash{id}, pasts: []uint32{first}, taken: [][]api.Spent{nil}}
}

// put puts b, a block of t that stands on the last one, on the branch.
func (l *branch) put(t *tree.Tree, b api.Block, r api.Rules) error {
	taken, _, err := conn.Block(&l.coins, b, len(l.ids), l.pasts, r)
	if err != nil {
		return err
	}
	id := block.ID(b)
	last, _ := past.Of(t, id)
	l.ids, l.pasts, l.taken = append(l.ids, id), append(l.pasts, last), append(l.taken, taken)
	return nil
}

// takeBack takes b, the last one, back.
func (l *branch) takeBack(b api.Block) {
	top := len(l.ids) - 1
	// This can't fail: what b took and made is as put left it.
	conn.Back(&l.coins, b, l.taken[top])
	l.taken[top] = nil // not to be kept behind the list's end
	l.ids, l.pasts, l.taken = l.ids[:top], l.pasts[:top], l.taken[:top]
}
