package undo_test

import (
	"maps"
	"slices"
	"testing"

	"sargasso/api"
	"sargasso/coins"
	"sargasso/spend"
	"sargasso/tx"
	"sargasso/undo"
)

// model is coins by their places, each call on a copy, so that an error needs no way back.
type model map[api.Point]api.Money

// add is coins.Set's Add.
func (m model) add(p api.Point, c api.Money) error {
	if c.Value > api.MaxMoney {
		return api.ErrValue
	}
	if _, is := m[p]; is {
		return api.ErrTwice
	}
	m[p] = c
	return nil
}

// apply is what Apply should do, and where the error is.
func (m model) apply(height int, l []api.Tx) (next model, taken []api.Spent, pos int, err error) {
	next = maps.Clone(m)
	for i, t := range l {
		base := len(t.Ins) == 1 && t.Ins[0].From == spend.Null()
		for _, in := range t.Ins {
			if base {
				continue
			}
			c, is := next[in.From]
			if !is {
				return m, nil, i, api.ErrMissing
			}
			delete(next, in.From)
			taken = append(taken, api.Spent{At: in.From, Coin: c})
		}
		for n, o := range t.Outs {
			c := api.Money{Value: o.Value, Lock: o.Lock, Height: height, Base: base}
			if err := next.add(api.Point{Tx: tx.ID(t), N: uint32(n)}, c); err != nil {
				return m, nil, i, err
			}
		}
	}
	return next, taken, 0, nil
}

// unapply is what Unapply should do, and where the error is.
func (m model) unapply(taken []api.Spent, l []api.Tx) (next model, pos int, err error) {
	next = maps.Clone(m)
	for i := len(l) - 1; i >= 0; i-- {
		t := l[i]
		for n, o := range t.Outs {
			p := api.Point{Tx: tx.ID(t), N: uint32(n)}
			c, is := next[p]
			switch {
			case !is:
				return m, i, api.ErrMissing
			case c.Value != o.Value || c.Lock != o.Lock:
				return m, i, api.ErrShape
			}
			delete(next, p)
		}
		if len(t.Ins) == 1 && t.Ins[0].From == spend.Null() {
			continue
		}
		for k := len(t.Ins) - 1; k >= 0; k-- {
			if len(taken) == 0 || taken[len(taken)-1].At != t.Ins[k].From {
				return m, i, api.ErrShape
			}
			if err := next.add(t.Ins[k].From, taken[len(taken)-1].Coin); err != nil {
				return m, i, err
			}
			taken = taken[:len(taken)-1]
		}
	}
	if len(taken) > 0 {
		return m, 0, api.ErrShape
	}
	return next, 0, nil
}

// list are the model's coins, in the order of their places.
func (m model) list() (l []api.Spent) {
	for p, c := range m {
		l = append(l, api.Spent{At: p, Coin: c})
	}
	slices.SortFunc(l, func(a, b api.Spent) int {
		if spend.Less(a.At, b.At) {
			return -1
		}
		return 1
	})
	return l
}

// turns are numbers that look like chance, always the same ones.
type turns struct{ next uint32 }

// below is a number below n.
func (r *turns) below(n int) int {
	r.next = r.next*1664525 + 1013904223
	return int(r.next>>8) % n
}

// someTx is a transaction that for the most part spends coins that are there, of m or of those ahead of it.
func someTx(r *turns, places []api.Point) api.Tx {
	t := api.Tx{Version: uint32(r.below(3))}
	for range r.below(4) {
		p := place(r.below(9))
		if len(places) > 0 && r.below(12) > 0 {
			p = places[r.below(len(places))]
		}
		t.Ins = append(t.Ins, api.In{From: p})
	}
	if r.below(6) == 0 {
		t.Ins = []api.In{{From: spend.Null(), Seq: uint32(r.below(40))}}
	}
	for range r.below(4) {
		value := uint64(r.below(5))
		if r.below(60) == 0 {
			value = api.MaxMoney + 1
		}
		t.Outs = append(t.Outs, api.Out{Value: value, Lock: api.Hash{byte(r.below(3))}})
	}
	return t
}

// someTxs are a few transactions, of which each may spend what the ones ahead make.
func someTxs(r *turns, m model) (l []api.Tx) {
	places := make([]api.Point, 0, len(m))
	for _, c := range m.list() {
		places = append(places, c.At)
	}
	for range r.below(5) {
		t := someTx(r, places)
		l = append(l, t)
		for n := range t.Outs {
			places = append(places, out(t, n))
		}
	}
	return l
}

// hurt changes something in what Unapply is handed, or nothing.
func hurt(r *turns, taken []api.Spent, l []api.Tx) ([]api.Spent, []api.Tx) {
	taken, l = slices.Clone(taken), slices.Clone(l)
	switch r.below(12) {
	case 0:
		taken = taken[min(1, len(taken)):]
	case 1:
		taken = taken[:max(0, len(taken)-1)]
	case 2:
		taken = append([]api.Spent{{At: place(1)}}, taken...)
	case 3:
		l = l[min(1, len(l)):]
	case 4:
		l = l[:max(0, len(l)-1)]
	case 5:
		slices.Reverse(taken)
	case 6:
		if len(taken) > 0 {
			taken[r.below(len(taken))].Coin.Value = api.MaxMoney + 1
		}
	}
	return taken, l
}

// held holds an error against what the model tells.
func held(t *testing.T, what string, err error, pos int, want error) {
	t.Helper()
	switch {
	case want != nil:
		expectAt(t, what, err, pos, want)
	case err != nil:
		t.Errorf("%s: %v", what, err)
	}
}

// block is what was put on, with what it took and what was there ahead of it.
type block struct {
	l     []api.Tx
	taken []api.Spent
	was   model
}

// putOn is a turn of putting l on s, of which m is the model; it answers the model behind it, and whether l was put on.
func putOn(t *testing.T, s *coins.Set, m model, height int, l []api.Tx) (next model, b block, is bool) {
	t.Helper()
	next, want, pos, wantErr := m.apply(height, l)
	taken, err := undo.Apply(s, height, l...)
	held(t, "Apply", err, pos, wantErr)
	if !slices.Equal(taken, want) {
		t.Errorf("Apply took %v, not %v", taken, want)
	}
	expect(t, "behind Apply", s, next.list())
	return next, block{l, taken, m}, wantErr == nil
}

// takeBack is a turn of taking b back from s, of which m is the model: first from a copy, with something wrong in it. It tells whether that was an error.
func takeBack(t *testing.T, s *coins.Set, m model, b block, r *turns) (fault bool) {
	t.Helper()
	taken, l := hurt(r, b.taken, b.l)
	next, pos, wantErr := m.unapply(taken, l)
	other := s.Clone()
	held(t, "Unapply of what is wrong", undo.Unapply(other, taken, l...), pos, wantErr)
	expect(t, "behind Unapply of what is wrong", other, next.list())
	if err := undo.Unapply(s, b.taken, b.l...); err != nil {
		t.Errorf("Unapply: %v", err)
	}
	expect(t, "behind Unapply", s, b.was.list())
	return wantErr != nil
}

// P9.1, P9.2: many turns of putting on and taking back, held against the model; some of what is handed in is wrong.
func TestAgainstAModel(t *testing.T) {
	r := &turns{1}
	s, m := setOf(t, some()), model{}
	for _, c := range some() {
		m[c.At] = c.Coin
	}
	var chain []block
	refused, faults := 0, 0
	for step := range 3000 {
		if len(chain) == 0 || len(chain) < 30 && r.below(5) > 1 {
			next, b, is := putOn(t, s, m, step, someTxs(r, m))
			m = next
			if is {
				chain = append(chain, b)
			} else {
				refused++
			}
		} else {
			last := chain[len(chain)-1]
			if takeBack(t, s, m, last, r) {
				faults++
			}
			m, chain = last.was, chain[:len(chain)-1]
		}
		if t.Failed() {
			t.Fatalf("step %d", step)
		}
	}
	if refused < 300 || faults < 300 {
		t.Errorf("%d refused, %d faults: too few to tell anything", refused, faults)
	}
}
