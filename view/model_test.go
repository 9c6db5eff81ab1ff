package view_test

import (
	"slices"
	"testing"

	"sargasso/api"
	"sargasso/coins"
	"sargasso/tx"
	"sargasso/view"
)

// laid is a transaction that was put, at its height.
type laid struct {
	tx     api.Tx
	height int
}

// model is a list of the set's coins, and one of those that were put: each question goes through both.
type model struct {
	set []api.Spent
	put []laid
}

// spender is which one that was put spends p.
func (m *model) spender(p api.Point) (api.Hash, bool) {
	for _, x := range m.put {
		for _, in := range x.tx.Ins {
			if in.From == p {
				return tx.ID(x.tx), true
			}
		}
	}
	return api.Hash{}, false
}

// coin is the coin at p, spent or not.
func (m *model) coin(p api.Point) (api.Money, bool) {
	all := slices.Clone(m.set)
	for _, x := range m.put {
		all = append(all, made(x.tx, x.height)...)
	}
	i := slices.IndexFunc(all, func(c api.Spent) bool { return c.At == p })
	if i < 0 {
		return api.Money{}, false
	}
	return all[i].Coin, true
}

// at is where in the list x is, below 0 where it is not.
func (m *model) at(x api.Tx) int {
	return slices.IndexFunc(m.put, func(y laid) bool { return tx.Same(x, y.tx) })
}

// lay is what Put should do.
func (m *model) lay(x api.Tx, height int) error {
	if m.at(x) >= 0 {
		return api.ErrTwice
	}
	for _, in := range x.Ins {
		_, there := m.coin(in.From)
		_, gone := m.spender(in.From)
		if !there || gone {
			return api.ErrMissing
		}
	}
	for n := range x.Outs {
		if _, there := m.coin(out(x, n)); there {
			return api.ErrMissing
		}
	}
	m.put = append(m.put, laid{x, height})
	return nil
}

// lift is what Take should do.
func (m *model) lift(x api.Tx) error {
	i := m.at(x)
	if i < 0 {
		return api.ErrNone
	}
	for n := range x.Outs {
		if _, gone := m.spender(out(x, n)); gone {
			return api.ErrMissing
		}
	}
	m.put = slices.Delete(m.put, i, i+1)
	return nil
}

// state is what the view should show.
func (m *model) state() state {
	want := over(m.set)
	want.len = len(m.put)
	for _, x := range m.put {
		for _, c := range made(x.tx, x.height) {
			if _, is := want.there[c.At]; !is {
				want.there[c.At] = c.Coin
			}
		}
	}
	for _, x := range m.put {
		for _, in := range x.tx.Ins {
			delete(want.there, in.From)
			want.gone[in.From] = tx.ID(x.tx)
		}
	}
	return want
}

// turns are numbers that look like chance, always the same ones.
type turns struct{ next uint32 }

// below is a number below n.
func (r *turns) below(n int) int {
	r.next = r.next*1664525 + 1013904223
	return int(r.next>>8) % n
}

// someTx is a transaction that spends some of these places, or places beside them.
func someTx(r *turns, from []api.Point) api.Tx {
	x := api.Tx{Version: uint32(r.below(2))}
	for range r.below(3) {
		p := from[len(from)-1-r.below(1+r.below(len(from)))] // for the most part a late one
		if r.below(15) == 0 {
			p.N += uint32(r.below(3))
		}
		x.Ins = append(x.Ins, api.In{From: p})
	}
	for range r.below(4) {
		x.Outs = append(x.Outs, api.Out{Value: uint64(r.below(3)), Lock: api.Hash{byte(r.below(2))}})
	}
	return x
}

// known are all transactions of a run, and all places that they, or the set's coins, had.
type known struct {
	txs    []api.Tx
	places []api.Point
}

// pick is a transaction for a turn: one that is known, or else, less often for Take, a new one.
func (k *known) pick(r *turns, taking bool) api.Tx {
	if len(k.txs) > 0 && (r.below(2) == 0 || taking && r.below(8) > 0) {
		return k.txs[r.below(len(k.txs))]
	}
	x := someTx(r, k.places)
	k.txs = append(k.txs, x)
	k.places = append(k.places, places(x)...)
	return x
}

// change adds a coin to the set, or spends one, as the model does.
func change(t *testing.T, r *turns, s *coins.Set, m *model, k *known) {
	t.Helper()
	p := k.places[r.below(len(k.places))]
	i := slices.IndexFunc(m.set, func(c api.Spent) bool { return c.At == p })
	if i >= 0 {
		if _, err := s.Spend(p); err != nil {
			t.Fatal(err)
		}
		m.set = slices.Delete(m.set, i, i+1)
		return
	}
	c := api.Money{Value: uint64(r.below(50)), Height: r.below(9), Base: r.below(2) == 0}
	add(t, s, p, c)
	m.set = append(m.set, api.Spent{At: p, Coin: c})
}

// counts are how often Put and Take were met by each answer.
type counts struct {
	put, twice, missing, taken, none, held int
}

// count counts an answer: of Take, or else of Put.
func (n *counts) count(taking bool, err error) {
	switch {
	case taking && err == nil:
		n.taken++
	case taking && err == api.ErrNone:
		n.none++
	case taking:
		n.held++
	case err == nil:
		n.put++
	case err == api.ErrTwice:
		n.twice++
	default:
		n.missing++
	}
}

// turn is one Put or Take of v and of its model, which must answer the same.
func turn(t *testing.T, r *turns, v *view.View, m *model, k *known, n *counts) {
	t.Helper()
	taking := r.below(4) == 0
	x, height := k.pick(r, taking), r.below(1000)-500
	var got, want error
	if taking {
		got, want = v.Take(x), m.lift(x)
	} else {
		got, want = v.Put(x, height), m.lay(x, height)
	}
	if got != want {
		t.Errorf("%v, not %v", got, want)
	}
	n.count(taking, want)
}

// P10.1: many turns, held against the model; now and then the set below is changed, too.
func TestAgainstAModel(t *testing.T) {
	n := &counts{}
	for round := range 40 {
		r := &turns{uint32(round)}
		s, m, k := setOf(t, some()), &model{set: some()}, &known{}
		for _, c := range some() {
			k.places = append(k.places, c.At)
		}
		v := view.Over(s)
		for step := range 120 {
			if round%2 == 1 && r.below(15) == 0 {
				change(t, r, s, m, k)
			}
			turn(t, r, v, m, k, n)
			expect(t, "a turn", v, m.state(), k.places...)
			if t.Failed() {
				t.Fatalf("round %d, step %d", round, step)
			}
		}
		expectSet(t, "at the end", s, m.set)
	}
	if min(n.put, n.twice, n.missing, n.taken, n.none, n.held) < 50 {
		t.Errorf("too few to tell anything: %+v", *n)
	}
}
