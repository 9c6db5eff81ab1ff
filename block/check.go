package block

import (
	"sargasso/api"
	"sargasso/head"
	"sargasso/tx"
)

// Check is what is wrong with b, as far as b alone can tell it.
func Check(b api.Block) error {
	if err := head.Check(b.Head); err != nil {
		return err
	}
	switch {
	case len(b.Txs) == 0, len(b.Txs) > api.MaxTxs:
		return api.ErrMany
	case Size(b) > api.MaxBlock:
		return api.ErrLong
	}
	if err := checkEach(b.Txs); err != nil {
		return err
	}
	switch {
	case spendsTwice(b.Txs):
		return api.ErrTwice
	case Root(b) != b.Head.Root:
		return api.ErrRoot
	}
	return nil
}

// checkEach is what is wrong with one of l, around its place: by itself, or, where none is so, by the place that it stands at.
func checkEach(l []api.Tx) error {
	for at, t := range l {
		if err := tx.Check(t); err != nil {
			return &api.At{Pos: at, Err: err}
		}
	}
	for at, t := range l {
		if tx.Base(t) != (at == 0) {
			return &api.At{Pos: at, Err: api.ErrBase}
		}
	}
	return nil
}

// spendsTwice tells whether two Ins of l, whose transactions are right each by itself, have one From. Ids need no look of their own: two transactions of one id have the same Ins, at least one.
func spendsTwice(l []api.Tx) bool {
	froms := map[api.Point]struct{}{}
	ins := 0
	for _, t := range l {
		for _, in := range t.Ins {
			froms[in.From] = struct{}{}
		}
		ins += len(t.Ins)
	}
	return len(froms) < ins
}
