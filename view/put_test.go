package view_test

import (
	"math"
	"slices"
	"testing"

	"sargasso/api"
	"sargasso/coins"
	"sargasso/spend"
	"sargasso/tx"
	"sargasso/view"
)

// P10.1: over no coins nothing is there, and nothing that spends one can be put.
func TestOverNoCoins(t *testing.T) {
	s := &coins.Set{}
	v := view.Over(s)
	none := over(nil)
	expect(t, "over no coins", v, none, at(0))
	refused(t, "over no coins", v, pay(outs(1), at(0)), api.ErrMissing, none)
	refused(t, "over no coins", v, pay(nil, api.Point{}), api.ErrMissing, none)
	stays(t, "over no coins", v, pay(outs(1), at(0)), api.ErrNone, none)
	expectSet(t, "over no coins", s, nil)
}

// P10.1: over a set are the set's coins, as they are there.
func TestOverSome(t *testing.T) {
	s := setOf(t, some())
	expect(t, "over some", view.Over(s), over(some()))
	expectSet(t, "over some", s, some())
}

// P10.1: what is put spends its Ins and makes its Outs, those of the set as those of one that was put; the set stays as it is.
func TestPut(t *testing.T) {
	s := setOf(t, some())
	v := view.Over(s)
	want := over(some())
	for i, x := range three() {
		if err := v.Put(x, 40-i); err != nil {
			t.Errorf("Put of %d: %v", i, err)
		}
		want = want.and(40-i, x)
		expect(t, "three", v, want)
		expectSet(t, "three", s, some())
	}
}

// P10.1: the Outs are told with the height that Put was handed, whatever it is, and aren't Base.
func TestPutHeights(t *testing.T) {
	for _, height := range []int{0, 1, -1, 7, api.MaxHeight, api.MaxHeight + 1, 1 << 32, math.MaxInt, math.MinInt} {
		v := view.Over(setOf(t, some()))
		x := pay(outs(3, 4), at(2), at(4))
		if err := v.Put(x, height); err != nil {
			t.Errorf("Put at %d: %v", height, err)
		}
		expect(t, "heights", v, over(some()).and(height, x))
	}
}

// P10.1: an Out of any Value is there: Put has no error for it, and no coin is made less by it.
func TestPutValues(t *testing.T) {
	v := view.Over(setOf(t, some()))
	x := pay(outs(0, api.MaxMoney, api.MaxMoney+1, 1<<63, math.MaxUint64), at(0))
	y := pay(outs(5), out(x, 2), out(x, 4))
	put(t, v, 3, x, y)
	expect(t, "values", v, over(some()).and(3, x, y))
}

// P10.1: one of no Ins, of no Outs, and of neither: each counts, and each only once.
func TestPutOfNothing(t *testing.T) {
	v := view.Over(setOf(t, some()))
	l := []api.Tx{{}, {Version: 2}, pay(outs(1, 2)), pay(nil, at(1)), {Time: 5, Ins: []api.In{}, Outs: []api.Out{}}}
	put(t, v, 6, l...)
	want := over(some()).and(6, l...)
	expect(t, "of nothing", v, want)
	for _, x := range l {
		refused(t, "of nothing", v, x, api.ErrTwice, want)
	}
	refused(t, "the zero value", v, api.Tx{Ins: []api.In{}, Outs: []api.Out{}}, api.ErrTwice, want)
	for i := range l {
		take(t, v, l[i])
		expect(t, "taken again", v, over(some()).and(6, l[i+1:]...), places(l[i])...)
		stays(t, "taken again", v, l[i], api.ErrNone, over(some()).and(6, l[i+1:]...))
	}
}

// P10.1: no bound of Ins and Outs is asked for: more than a transaction may have are put all the same.
func TestPutMany(t *testing.T) {
	const many = 6 * api.MaxIns
	s := &coins.Set{}
	var l []api.Spent
	var from []api.Point
	var values []uint64
	for n := range many {
		c := api.Spent{At: api.Point{Tx: someHash(n % 7), N: uint32(n)}, Coin: api.Money{Value: uint64(n)}}
		add(t, s, c.At, c.Coin)
		l, from, values = append(l, c), append(from, c.At), append(values, uint64(n))
	}
	v := view.Over(s)
	x := pay(outs(values...), from...)
	y := pay(outs(9), out(x, many-1))
	put(t, v, 5, x, y)
	want := over(l).and(5, x, y)
	expect(t, "many", v, want)
	stays(t, "the last of many is spent", v, x, api.ErrMissing, want)
	take(t, v, y, x)
	expect(t, "many taken", v, over(l), slices.Concat(places(x), places(y))...)
	add(t, s, out(x, many-1), api.Money{})
	l = append(l, api.Spent{At: out(x, many-1)})
	refused(t, "the last of many is there", v, x, api.ErrMissing, over(l))
}

// P10.1: one that is there is ErrTwice, ahead of all, at whatever height.
func TestPutTwice(t *testing.T) {
	v := view.Over(setOf(t, some()))
	l := three()
	put(t, v, 4, l...)
	want := over(some()).and(4, l...)
	for _, x := range l {
		refused(t, "twice", v, x, api.ErrTwice, want)
		refused(t, "a copy", v, tx.Clone(x), api.ErrTwice, want)
	}
}

// P10.1: a place whose coin is not there, alone or among others, is ErrMissing.
func TestPutMissing(t *testing.T) {
	v := view.Over(setOf(t, some()))
	l := three()
	put(t, v, 4, l...)
	want := over(some()).and(4, l...)
	missing := []api.Point{
		at(9), {}, spend.Null(), {Tx: someHash(3), N: 2}, {Tx: someHash(3), N: 4}, // none of the set
		at(0), at(1), at(2), // spent, of the set
		out(l[0], 1), out(l[0], 2), out(l[1], 1), // spent, of one that was put
		out(l[0], 3), out(l[1], 2), out(l[2], 1), {Tx: tx.ID(l[2]), N: math.MaxUint32}, {Tx: tx.ID(l[2]), N: 1 << 31}, // past the last Out
		out(pay(outs(1), at(3)), 0), // of one that was not put
	}
	for _, p := range missing {
		refused(t, "alone", v, pay(outs(1), p), api.ErrMissing, want)
		refused(t, "without Outs", v, pay(nil, p), api.ErrMissing, want)
		refused(t, "in front", v, pay(outs(1), p, at(3), out(l[0], 0)), api.ErrMissing, want)
		refused(t, "between", v, pay(outs(1), at(3), p, out(l[0], 0)), api.ErrMissing, want)
		refused(t, "behind", v, pay(outs(1, 2), at(3), out(l[0], 0), p), api.ErrMissing, want)
	}
	x := pay(outs(1), at(3), out(l[0], 0), at(4), at(5))
	put(t, v, 7, x)
	expect(t, "behind what was refused", v, want.and(7, x))
}

// P10.1: an Out that stands in the set already is ErrMissing, spent over it or not; a coin of the set behind the last Out is none.
func TestPutOutThere(t *testing.T) {
	x := pay(outs(1, 2, 3), at(3))
	for n := range 5 {
		s, l := setOf(t, some()), some()
		there := api.Spent{At: out(x, n), Coin: api.Money{Value: 88, Height: 8}}
		l = append(l, there)
		add(t, s, there.At, there.Coin)
		v := view.Over(s)
		if n >= 3 {
			put(t, v, 6, x)
			expect(t, "behind the last Out", v, over(l).and(6, x))
			continue
		}
		refused(t, "an Out that is there", v, x, api.ErrMissing, over(l))
		other := pay(outs(4), there.At)
		put(t, v, 6, other)
		refused(t, "an Out that was there", v, x, api.ErrMissing, over(l).and(6, other))
		take(t, v, other)
		refused(t, "an Out that is there again", v, x, api.ErrMissing, over(l))
		expectSet(t, "an Out that is there", s, l)
	}
}

// P10.1: two Ins of one transaction may name one coin: none that was put has spent it.
func TestPutOneCoinTwice(t *testing.T) {
	v := view.Over(setOf(t, some()))
	x := pay(outs(1, 2), at(3), at(4), at(3))
	y := pay(outs(3), out(x, 1), out(x, 1))
	put(t, v, 6, x, y)
	expect(t, "one coin twice", v, over(some()).and(6, x, y))
	take(t, v, y)
	expect(t, "one taken", v, over(some()).and(6, x), places(y)...)
	take(t, v, x)
	expect(t, "both taken", v, over(some()), places(x)...)
}

// P10.1: a block's first transaction is one as others: it needs the coin that it names, and its Outs aren't Base.
func TestPutFirst(t *testing.T) {
	l := some()
	first := pay(outs(50), spend.Null())
	v := view.Over(setOf(t, l))
	refused(t, "no coin at Null", v, first, api.ErrMissing, over(l))
	l = append(l, api.Spent{At: spend.Null(), Coin: api.Money{Value: 3, Base: true}})
	v = view.Over(setOf(t, l))
	put(t, v, 6, first)
	expect(t, "a coin at Null", v, over(l).and(6, first))
	take(t, v, first)
	expect(t, "a coin at Null", v, over(l), places(first)...)
}

// P10.1: the set is kept: what becomes of its coins is seen.
func TestSetKept(t *testing.T) {
	l := some()
	s := setOf(t, l)
	v := view.Over(s)
	x := pay(outs(7, 8), at(8), at(1))
	refused(t, "not yet there", v, x, api.ErrMissing, over(l))
	l = append(l, api.Spent{At: at(8), Coin: api.Money{Value: 15, Height: 3}})
	add(t, s, at(8), l[6].Coin)
	expect(t, "one more", v, over(l))
	put(t, v, 5, x)
	expect(t, "spent", v, over(l).and(5, x))
	if _, err := s.Spend(at(3)); err != nil {
		t.Fatal(err)
	}
	l = slices.Delete(l, 3, 4)
	expect(t, "one less", v, over(l).and(5, x), at(3))
	refused(t, "no longer there", v, pay(outs(1), at(3)), api.ErrMissing, over(l).and(5, x))
	expectSet(t, "behind all", s, l)
}

// P10.1, P0.7: a coin that came into the set where one that was put has an Out is told ahead of that, while it is there.
func TestSetAhead(t *testing.T) {
	l := some()
	s := setOf(t, l)
	v := view.Over(s)
	x := pay(outs(7, 8), at(1))
	put(t, v, 5, x)
	c := api.Money{Value: 99, Height: 1, Base: true}
	add(t, s, out(x, 1), c)
	want := over(l).and(5, x)
	want.there[out(x, 1)] = c
	expect(t, "of the set", v, want)
	if _, err := s.Spend(out(x, 1)); err != nil {
		t.Fatal(err)
	}
	expect(t, "of one that was put", v, over(l).and(5, x))
}

// P10.1, P0.5: views stand for themselves, of one set too.
func TestViewsApart(t *testing.T) {
	s := setOf(t, some())
	a, b := view.Over(s), view.Over(s)
	l := three()
	put(t, a, 4, l...)
	expect(t, "another view", b, over(some()), slices.Concat(places(l[0]), places(l[1]), places(l[2]))...)
	x := pay(outs(6), at(1))
	put(t, b, 9, x)
	expect(t, "the one", a, over(some()).and(4, l...), places(x)...)
	expect(t, "the other one", b, over(some()).and(9, x))
	expect(t, "a third one", view.Over(s), over(some()), places(x)...)
	stays(t, "the other one", b, l[2], api.ErrNone, over(some()).and(9, x))
}

// P0.4: what is handed in is neither changed, nor kept, nor what lies behind its length touched.
func TestPutKeepsNothing(t *testing.T) {
	v := view.Over(setOf(t, some()))
	x := three()[0]
	was := tx.Clone(x)
	behindIns := append(x.Ins, api.In{From: at(5)})
	behindOuts := append(x.Outs, api.Out{Value: 66})
	x.Ins, x.Outs = behindIns[:2], behindOuts[:3]
	put(t, v, 5, x)
	if !tx.Same(x, was) || behindIns[2].From != at(5) || behindIns[2].Key != nil || behindOuts[3] != (api.Out{Value: 66}) {
		t.Errorf("Put changed what was handed in: %v", x)
	}
	for i := range behindIns {
		behindIns[i].From = at(4)
		clear(behindIns[i].Key)
	}
	clear(behindOuts)
	expect(t, "behind a change", v, over(some()).and(5, was))
	stays(t, "what it was changed to", v, x, api.ErrNone, over(some()).and(5, was))
	mine := tx.Clone(was)
	take(t, v, mine)
	if !tx.Same(mine, was) {
		t.Errorf("Take changed what was handed in: %v", mine)
	}
	expect(t, "taken", v, over(some()), places(was)...)
}
