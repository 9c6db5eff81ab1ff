package chain_test

import (
	"math"
	"slices"
	"testing"

	"sargasso/api"
	"sargasso/block"
	"sargasso/chain"
)

// P17.1, P17.2: a new chain is the start alone, which leaves no coins.
func TestNew(t *testing.T) {
	c, m := begin(t, rules(100, 1))
	s := block.ID(block.Start())
	if c.Tip() != s || c.Height() != 0 || c.Past() != 1000 {
		t.Errorf("the tip is %x, of height %d, past %d", c.Tip(), c.Height(), c.Past())
	}
	if !slices.Equal(c.Branch(), []api.Hash{s}) || !slices.Equal(c.Pasts(), []uint32{1000}) || len(c.Bad()) != 0 {
		t.Errorf("Branch %x, Pasts %v, Bad %x", c.Branch(), c.Pasts(), c.Bad())
	}
	if got := c.Coins(); got.Len() != 0 || got.Total() != 0 {
		t.Errorf("%d coins", got.Len())
	}
	if b, is := c.Block(s); !is || !block.Same(b, block.Start()) || !c.On(s) {
		t.Errorf("the start is %v, %v", b, is)
	}
	expect(t, "new", c, m)
}

// number is one of the rules, and the least and the greatest that it can be.
type number struct {
	what        string
	of          func(r *api.Rules) *int
	least, most int
}

// numbers are all of the rules.
func numbers() []number {
	return []number{
		{"Halving", func(r *api.Rules) *int { return &r.Halving }, 1, api.MaxHeight},
		{"Maturity", func(r *api.Rules) *int { return &r.Maturity }, 0, 1000},
		{"PoolBytes", func(r *api.Rules) *int { return &r.PoolBytes }, 1, 1 << 24},
		{"RedoBytes", func(r *api.Rules) *int { return &r.RedoBytes }, 1, 1 << 24},
		{"LogMost", func(r *api.Rules) *int { return &r.LogMost }, 1, 1 << 16},
		{"Ancestors", func(r *api.Rules) *int { return &r.Ancestors }, 1, 1000},
		{"AncestorBytes", func(r *api.Rules) *int { return &r.AncestorBytes }, 1, 1 << 24},
		{"Descendants", func(r *api.Rules) *int { return &r.Descendants }, 1, 1000},
		{"DescendantBytes", func(r *api.Rules) *int { return &r.DescendantBytes }, 1, 1 << 24},
	}
}

// P17.1: value.Rules' error: each of the numbers has to be one that can be; there is no chain beside it.
func TestNewRules(t *testing.T) {
	for _, n := range numbers() {
		for _, x := range []struct {
			value int
			right bool
		}{
			{n.least, true}, {n.least + 1, true}, {n.most - 1, true}, {n.most, true},
			{n.least - 1, false}, {n.most + 1, false}, {math.MinInt, false}, {math.MaxInt, false}, {-n.most, false}, {n.most + 1<<32, false},
		} {
			r := rules(100, 1)
			*n.of(&r) = x.value
			c, err := chain.New(r)
			if x.right && (c == nil || err != nil) || !x.right && (c != nil || err != api.ErrRange) {
				t.Errorf("%s of %d: %v, %v", n.what, x.value, c, err)
			}
			if c != nil {
				sendAll(t, c, modelOf(r), on(block.Start(), 1, 1))
			}
		}
	}
	if c, err := chain.New(api.Rules{}); c != nil || err != api.ErrRange {
		t.Errorf("of no rules: %v, %v", c, err)
	}
}

// P17.1, P0.5: what one chain takes in no other one shows, also of the same rules.
func TestTwoChains(t *testing.T) {
	c, m := begin(t, rules(100, 0))
	d, n := begin(t, rules(100, 0))
	a := row(block.Start(), 3, 1, 3)
	b := row(block.Start(), 5, 11, 2)
	sendAll(t, c, m, a...)
	expect(t, "the second", d, n)
	sendAll(t, d, n, b...)
	expect(t, "the first", c, m)
	keep(t, d, n, a[0])
	mark(t, "the second", d, n, on(b[1], 1, 20, pay(a[0], 1, 9)), fails(api.ErrMissing, 1, 0))
	expect(t, "the first", c, m)
	sendAll(t, c, m, on(a[2], 1, 20, pay(a[0], 1, 9)))
	expect(t, "the second", d, n)
}
