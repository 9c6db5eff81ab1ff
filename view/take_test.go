package view_test

import (
	"slices"
	"testing"

	"sargasso/api"
	"sargasso/tx"
	"sargasso/view"
)

// P10.1: what is taken is as if it had not been, from the last one on, and can be put again, at another height.
func TestTake(t *testing.T) {
	s := setOf(t, some())
	v := view.Over(s)
	l := three()
	all := slices.Concat(places(l[0]), places(l[1]), places(l[2]))
	for round := range 3 {
		put(t, v, 10*round, l...)
		expect(t, "put", v, over(some()).and(10*round, l...))
		for i, x := range slices.Backward(l) {
			if err := v.Take(x); err != nil {
				t.Errorf("Take of %d: %v", i, err)
			}
			expect(t, "taken", v, over(some()).and(10*round, l[:i]...), all...)
		}
	}
	expectSet(t, "taken", s, some())
}

// P10.1: what was taken alone can be put again, and what it had spent be spent by another one.
func TestPutBehindTake(t *testing.T) {
	v := view.Over(setOf(t, some()))
	l := three()
	put(t, v, 10, l...)
	take(t, v, l[2])
	x := pay(outs(5, 6), out(l[0], 2), at(3))
	put(t, v, 12, x)
	want := over(some()).and(10, l[:2]...).and(12, x)
	expect(t, "another one", v, want, places(l[2])...)
	refused(t, "the one that was taken", v, l[2], api.ErrMissing, want)
	take(t, v, x)
	put(t, v, 12, l[2])
	expect(t, "the one that was taken", v, over(some()).and(10, l[:2]...).and(12, l[2]), places(x)...)
}

// P10.1: what was not put is ErrNone, and nothing is changed.
func TestTakeNone(t *testing.T) {
	v := view.Over(setOf(t, some()))
	l := three()
	none := over(some())
	for _, x := range l {
		stays(t, "nothing was put", v, x, api.ErrNone, none)
	}
	put(t, v, 4, l[:2]...)
	want := over(some()).and(4, l[:2]...)
	for i := range l[0].Ins {
		x := tx.Clone(l[0])
		x.Ins[i].Seq += 5
		stays(t, "another Seq", v, x, api.ErrNone, want)
		x = tx.Clone(l[0])
		x.Ins[i].Key = nil
		stays(t, "another Key", v, x, api.ErrNone, want)
	}
	stays(t, "not yet put", v, l[2], api.ErrNone, want)
	stays(t, "the zero value", v, api.Tx{}, api.ErrNone, want)
	stays(t, "the same Ins and no Outs", v, api.Tx{Version: 1, Ins: l[0].Ins}, api.ErrNone, want)
	stays(t, "the same Outs and no Ins", v, api.Tx{Version: 1, Outs: l[0].Outs}, api.ErrNone, want)
	take(t, v, l[1], l[0])
	stays(t, "taken already", v, l[1], api.ErrNone, none)
	stays(t, "taken already", v, l[0], api.ErrNone, none)
}

// P10.1: one of which an Out is spent is ErrMissing, and nothing is changed; it can be taken once no Out of it is.
func TestTakeSpent(t *testing.T) {
	for n := range 3 {
		v := view.Over(setOf(t, some()))
		x := pay(outs(1, 2, 3), at(1))
		y := pay(outs(5), out(x, n))
		put(t, v, 8, x, y)
		stays(t, "one Out is spent", v, x, api.ErrMissing, over(some()).and(8, x, y))
		take(t, v, y)
		expect(t, "none is spent", v, over(some()).and(8, x), places(y)...)
		take(t, v, x)
		expect(t, "none is put", v, over(some()), places(x)...)
	}
	v := view.Over(setOf(t, some()))
	x := pay(outs(1, 2, 3), at(1))
	a, b := pay(outs(5), out(x, 0)), pay(outs(6), out(x, 2))
	put(t, v, 8, x, a, b)
	take(t, v, a)
	stays(t, "one of two is spent", v, x, api.ErrMissing, over(some()).and(8, x, b))
}

// P10.1: of those that don't hang together any one can be taken, whichever was put first.
func TestTakeAnyOne(t *testing.T) {
	for i := range 3 {
		v := view.Over(setOf(t, some()))
		l := []api.Tx{pay(outs(1), at(1), at(2)), pay(outs(2, 3), at(3)), pay(nil, at(0), at(5))}
		put(t, v, 6, l...)
		take(t, v, l[i])
		want := over(some()).and(6, slices.Delete(slices.Clone(l), i, i+1)...)
		expect(t, "the other two", v, want, places(l[i])...)
	}
}

// P10.1: one that was not put is ErrNone also where one that was put spends a coin of the set that stands where its Out would.
func TestTakeNoneAheadOfSpent(t *testing.T) {
	x := pay(outs(1, 2), at(1))
	l := append(some(), api.Spent{At: out(x, 1), Coin: api.Money{Value: 4}})
	v := view.Over(setOf(t, l))
	y := pay(outs(5), out(x, 1))
	put(t, v, 8, y)
	stays(t, "not put", v, x, api.ErrNone, over(l).and(8, y))
}

// P10.1: only a place of its Outs holds one: a coin of the set behind its last Out may be spent.
func TestTakeBehindTheLastOut(t *testing.T) {
	x := pay(outs(1, 2), at(1))
	l := append(some(), api.Spent{At: out(x, 2), Coin: api.Money{Value: 4}})
	v := view.Over(setOf(t, l))
	y := pay(outs(5), out(x, 2))
	put(t, v, 8, y)
	if err := v.Put(x, 3); err != nil {
		t.Fatal(err)
	}
	if err := v.Take(x); err != nil {
		t.Errorf("Take: %v", err)
	}
	expect(t, "taken", v, over(l).and(8, y), places(x)...)
}

// P10.1: what is taken gives back the coins as they are in the set by then.
func TestTakeOverAnotherSet(t *testing.T) {
	l := some()
	s := setOf(t, l)
	v := view.Over(s)
	x := pay(outs(1), at(1), at(2))
	put(t, v, 8, x)
	if _, err := s.Spend(at(2)); err != nil {
		t.Fatal(err)
	}
	l = slices.Delete(l, 2, 3)
	expect(t, "gone below", v, over(l).and(8, x))
	take(t, v, x)
	expect(t, "taken", v, over(l), places(x)...)
	refused(t, "again", v, x, api.ErrMissing, over(l))
	expectSet(t, "taken", s, l)
}
