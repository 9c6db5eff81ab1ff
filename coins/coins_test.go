package coins_test

import (
	"math"
	"slices"
	"testing"

	"sargasso/api"
	"sargasso/coins"
	"sargasso/spend"
)

// P8.1: the zero value has no coins, and each of its calls may be the first one.
func TestZeroValue(t *testing.T) {
	expect(t, "the zero value", &coins.Set{}, nil)
	expectNone(t, "the zero value", &coins.Set{}, api.Point{})
	expectNone(t, "the zero value", &coins.Set{}, spend.Null())
	var first coins.Set
	if err := first.Add(api.Point{}, api.Money{}); err != nil || first.Len() != 1 {
		t.Errorf("Add: %v", err)
	}
	var wrong coins.Set
	if err := wrong.Add(api.Point{}, api.Money{Value: api.MaxMoney + 1}); err != api.ErrValue {
		t.Errorf("Add: %v", err)
	}
	expect(t, "behind an error", &wrong, nil)
	var asked coins.Set
	expectNone(t, "asked first", &asked, api.Point{})
	if err := asked.Add(api.Point{}, api.Money{Value: 1}); err != nil || asked.Total() != 1 {
		t.Errorf("Add behind Spend: %v", err)
	}
}

// P8.1: what is added is there as it was, all of its Height too, and nothing at the places beside.
func TestAdd(t *testing.T) {
	s := &coins.Set{}
	for i, c := range some() {
		expectNone(t, "not yet added", s, c.At)
		if err := s.Add(c.At, c.Coin); err != nil {
			t.Errorf("Add at %v: %v", c.At, err)
		}
		expect(t, "some", s, some()[:i+1])
	}
	for _, p := range absent() {
		expectNone(t, "beside", s, p)
	}
	expect(t, "all of some", s, some())
}

// P8.1: a Value is taken up to MaxMoney, with whatever there is beside it; a greater one is ErrValue, and changes nothing.
func TestValue(t *testing.T) {
	for _, value := range []uint64{0, 1, api.Coin, 1 << 32, api.MaxMoney - 1, api.MaxMoney} {
		c := api.Spent{At: api.Point{N: 3}, Coin: api.Money{Value: value}}
		expect(t, "a Value that may be", setOf(t, []api.Spent{c}), []api.Spent{c})
	}
	for _, value := range []uint64{api.MaxMoney + 1, api.MaxMoney + 2, 1 << 51, 1 << 63, 1<<63 + 5, math.MaxUint64} {
		s := setOf(t, some())
		for _, p := range absent() {
			if err := s.Add(p, api.Money{Value: value, Lock: someHash(1), Height: 5, Base: true}); err != api.ErrValue {
				t.Errorf("a Value of %d: %v", value, err)
			}
			expectNone(t, "a Value that may not be", s, p)
		}
		expect(t, "a Value that may not be", s, some())
	}
}

// P8.1: no place has two coins: ErrTwice, also of the same coin, and the one that was there stays.
func TestTwice(t *testing.T) {
	s := setOf(t, some())
	for _, c := range some() {
		for _, other := range []api.Money{c.Coin, {}, {Value: 9, Lock: someHash(8), Height: 9, Base: true}} {
			if err := s.Add(c.At, other); err != api.ErrTwice {
				t.Errorf("another coin at %v: %v", c.At, err)
			}
		}
	}
	expect(t, "behind ErrTwice", s, some())
}

// P8.1, P0.2: of two errors the Value's is told.
func TestValueAheadOfTwice(t *testing.T) {
	s := setOf(t, some())
	for _, c := range some() {
		for _, value := range []uint64{api.MaxMoney + 1, math.MaxUint64} {
			if err := s.Add(c.At, api.Money{Value: value}); err != api.ErrValue {
				t.Errorf("a Value of %d at %v: %v", value, c.At, err)
			}
		}
	}
	expect(t, "behind ErrValue", s, some())
}

// P8.1: Spend tells what was there, and it is gone, alone of all.
func TestSpend(t *testing.T) {
	for i, c := range some() {
		s := setOf(t, some())
		if got, err := s.Spend(c.At); err != nil || got != c.Coin {
			t.Errorf("Spend at %v: %v, %v", c.At, got, err)
		}
		expectNone(t, "spent", s, c.At)
		expect(t, "one less", s, without(some(), i))
	}
}

// P8.1: Spend of what is not there is ErrMissing, and changes nothing.
func TestSpendOfNothing(t *testing.T) {
	s := setOf(t, some())
	for _, p := range absent() {
		for range 2 {
			expectNone(t, "not there", s, p)
		}
	}
	expect(t, "behind ErrMissing", s, some())
}

// P8.1: where a coin is spent there is room for another one, and that one alone is there then.
func TestAddBehindSpend(t *testing.T) {
	for i, c := range some() {
		s := setOf(t, some())
		if _, err := s.Spend(c.At); err != nil {
			t.Errorf("Spend at %v: %v", c.At, err)
		}
		l := some()
		l[i].Coin = api.Money{Value: 77, Lock: someHash(77), Height: 77, Base: !c.Coin.Base}
		if err := s.Add(c.At, l[i].Coin); err != nil {
			t.Errorf("Add at %v: %v", c.At, err)
		}
		expect(t, "another coin", s, l)
	}
}

// P8.1: all spent, in whatever order, leaves what the zero value is.
func TestSpendAll(t *testing.T) {
	for _, backward := range []bool{false, true} {
		l := some()
		s := setOf(t, l)
		if backward {
			slices.Reverse(l)
		}
		for _, c := range l {
			if got, err := s.Spend(c.At); err != nil || got != c.Coin {
				t.Errorf("Spend at %v: %v, %v", c.At, got, err)
			}
		}
		expect(t, "all spent", s, nil)
		for _, c := range l {
			expectNone(t, "all spent", s, c.At)
		}
		expect(t, "some again", setOf(t, some()), some())
	}
}

// P8.1: Total goes round at 64 bits, and comes back as coins are spent.
func TestTotalGoesRound(t *testing.T) {
	const fit = math.MaxUint64 / api.MaxMoney
	var s coins.Set
	for n := range uint32(fit) {
		if err := s.Add(api.Point{N: n}, api.Money{Value: api.MaxMoney}); err != nil {
			t.Fatal(err)
		}
	}
	if got := s.Total(); got != fit*api.MaxMoney {
		t.Errorf("as many as 64 bits have: %d", got)
	}
	rest := api.Point{Tx: someHash(1)}
	if err := s.Add(rest, api.Money{Value: math.MaxUint64 % api.MaxMoney}); err != nil || s.Total() != math.MaxUint64 {
		t.Errorf("all 64 bits: %v, %d", err, s.Total())
	}
	one := api.Point{Tx: someHash(2)}
	if err := s.Add(one, api.Money{Value: 1}); err != nil || s.Total() != 0 {
		t.Errorf("one more: %v, %d", err, s.Total())
	}
	more := api.Point{Tx: someHash(3)}
	if err := s.Add(more, api.Money{Value: api.MaxMoney}); err != nil || s.Total() != api.MaxMoney || s.Len() != fit+3 {
		t.Errorf("behind the round: %v, %d", err, s.Total())
	}
	for _, p := range []api.Point{more, one} {
		if _, err := s.Spend(p); err != nil {
			t.Error(err)
		}
	}
	if got := s.Total(); got != math.MaxUint64 {
		t.Errorf("back again: %d", got)
	}
}

// P8.1: a Clone has the same coins, of the zero value and behind Spend too.
func TestClone(t *testing.T) {
	expect(t, "a Clone of none", (&coins.Set{}).Clone(), nil)
	s := setOf(t, some())
	expect(t, "a Clone", s.Clone(), some())
	expect(t, "a Clone's Clone", s.Clone().Clone(), some())
	expect(t, "what was cloned", s, some())
	if _, err := s.Spend(some()[3].At); err != nil {
		t.Error(err)
	}
	expect(t, "a Clone behind Spend", s.Clone(), without(some(), 3))
	expectNone(t, "a Clone behind Spend", s.Clone(), some()[3].At)
}

// P8.1, P0.4: a Clone goes its own way: neither it, nor what it was made of, nor another Clone shows what is done to one.
func TestClonesApart(t *testing.T) {
	for done := range 3 {
		sets := []*coins.Set{setOf(t, some()), nil, nil}
		sets[1] = sets[0].Clone()
		sets[2] = sets[1].Clone()
		one := api.Spent{At: api.Point{N: 2}, Coin: api.Money{Value: 8}}
		if err := sets[done].Add(one.At, one.Coin); err != nil {
			t.Error(err)
		}
		if _, err := sets[done].Spend(some()[0].At); err != nil {
			t.Error(err)
		}
		l := slices.Insert(some()[1:], 1, one)
		for i, s := range sets {
			if i == done {
				expect(t, "the one that was changed", s, l)
				continue
			}
			expect(t, "another one", s, some())
			expectNone(t, "another one", s, one.At)
		}
	}
}

// P8.1, P0.4: a Clone of no coins, and what it was made of, can each be added to alone.
func TestClonesOfNone(t *testing.T) {
	one := some()[5:6]
	for done := range 2 {
		s := &coins.Set{}
		sets := []*coins.Set{s, s.Clone()}
		if err := sets[done].Add(one[0].At, one[0].Coin); err != nil {
			t.Error(err)
		}
		expect(t, "the one that was added to", sets[done], one)
		expect(t, "the other one", sets[1-done], nil)
	}
}

// P8.1, P0.5: sets stand for themselves.
func TestSetsApart(t *testing.T) {
	var a, b coins.Set
	if err := a.Add(api.Point{}, api.Money{Value: 1}); err != nil {
		t.Error(err)
	}
	expectNone(t, "another set", &b, api.Point{})
	expect(t, "another set", &b, nil)
}

// P8.1: many calls, held against a sorted list.
func TestAgainstAList(t *testing.T) {
	var s coins.Set
	var l []api.Spent
	next := uint32(1)
	turn := func(below uint32) uint32 {
		next = next*1664525 + 1013904223
		return next >> 8 % below
	}
	for step := range 6000 {
		p := api.Point{Tx: api.Hash{byte(turn(3)), 31: byte(turn(3))}, N: turn(9) << 5}
		at, is := slices.BinarySearchFunc(l, p, func(c api.Spent, p api.Point) int {
			switch {
			case spend.Less(c.At, p):
				return -1
			case c.At == p:
				return 0
			}
			return 1
		})
		c := api.Money{Value: uint64(turn(1000)), Lock: someHash(byte(step)), Height: step - 50, Base: turn(2) == 0}
		adding := turn(2) == 0
		switch {
		case adding && is:
			if err := s.Add(p, c); err != api.ErrTwice {
				t.Fatalf("step %d: Add: %v", step, err)
			}
		case adding:
			if err := s.Add(p, c); err != nil {
				t.Fatalf("step %d: Add: %v", step, err)
			}
			l = slices.Insert(l, at, api.Spent{At: p, Coin: c})
		case is:
			if got, err := s.Spend(p); err != nil || got != l[at].Coin {
				t.Fatalf("step %d: Spend: %v, %v", step, got, err)
			}
			l = slices.Delete(l, at, at+1)
		default:
			expectNone(t, "not there", &s, p)
		}
		if step%50 == 0 {
			expect(t, "many calls", &s, l)
		}
	}
	expect(t, "at the end", &s, l)
}
