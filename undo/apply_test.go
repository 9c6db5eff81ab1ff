package undo_test

import (
	"bytes"
	"math"
	"slices"
	"testing"

	"sargasso/api"
	"sargasso/coins"
	"sargasso/spend"
	"sargasso/undo"
)

// P9.1: Apply spends what the Ins name, tells it in order, and adds the Outs, one transaction behind another.
func TestApply(t *testing.T) {
	s := setOf(t, some())
	taken, err := undo.Apply(s, 30, three()...)
	if err != nil || !slices.Equal(taken, takenOfThree(30)) {
		t.Errorf("taken: %v, %v", taken, err)
	}
	expect(t, "three", s, leftByThree(30))
}

// P9.1: one by one comes to the same as all in one call.
func TestApplyOneByOne(t *testing.T) {
	s := setOf(t, some())
	var all []api.Spent
	for _, x := range three() {
		taken, err := undo.Apply(s, 30, x)
		if err != nil {
			t.Error(err)
		}
		all = append(all, taken...)
	}
	if !slices.Equal(all, takenOfThree(30)) {
		t.Errorf("taken: %v", all)
	}
	expect(t, "one by one", s, leftByThree(30))
}

// P9.1: of nothing nothing is taken, on any coins.
func TestApplyOfNothing(t *testing.T) {
	for _, l := range [][]api.Tx{nil, {}, {{}}, {{}, {Version: 1}, {Time: 1}}} {
		for _, have := range [][]api.Spent{nil, some()} {
			s := setOf(t, have)
			if taken, err := undo.Apply(s, 7, l...); err != nil || len(taken) > 0 {
				t.Errorf("%v, %v", taken, err)
			}
			expect(t, "nothing", s, have)
		}
	}
}

// P9.1: the height goes into each Out's coin as it is, whatever it is; those that are taken keep theirs.
func TestApplyHeights(t *testing.T) {
	for _, height := range []int{0, 1, 255, 256, api.MaxHeight, math.MaxInt32, 1 << 32, math.MaxInt, -1, math.MinInt} {
		s := setOf(t, some())
		taken, err := undo.Apply(s, height, three()...)
		if err != nil || !slices.Equal(taken, takenOfThree(height)) {
			t.Errorf("height %d: %v, %v", height, taken, err)
		}
		expect(t, "a height", s, leftByThree(height))
	}
}

// P9.1: a first transaction is one with one In, of no place; its In spends nothing, not even a coin that is there. All else spends.
func TestApplyOfBases(t *testing.T) {
	null := api.Spent{At: spend.Null(), Coin: api.Money{Value: 9}}
	have := with(some(), null)
	base := first(outs(5, 6))
	s := setOf(t, have)
	if taken, err := undo.Apply(s, 3, base); err != nil || len(taken) > 0 {
		t.Errorf("a first one: %v, %v", taken, err)
	}
	expect(t, "a first one", s, with(have, made(base, 3, true)...))
	for what, x := range map[string]struct {
		t     api.Tx
		taken []api.Spent
	}{
		"no In":                     {pay(outs(5)), nil},
		"the place of none, ahead":  {pay(outs(5), spend.Null(), place(1)), []api.Spent{null, some()[1]}},
		"the place of none, behind": {pay(outs(5), place(1), spend.Null()), []api.Spent{some()[1], null}},
		"one In":                    {pay(outs(5), place(1)), some()[1:2]},
	} {
		s := setOf(t, have)
		taken, err := undo.Apply(s, 3, x.t)
		if err != nil || !slices.Equal(taken, x.taken) {
			t.Errorf("%s: %v, %v", what, taken, err)
		}
		gone := have
		for _, c := range x.taken {
			gone = without(gone, c.At)
		}
		expect(t, what, s, with(gone, made(x.t, 3, false)...))
	}
}

// P9.1: where a first transaction stands is no matter, nor how many there are.
func TestApplyOfBasesAnywhere(t *testing.T) {
	a, b, c := pay(outs(1), place(1)), first(outs(2)), first(outs(3, 3))
	s := setOf(t, some())
	if taken, err := undo.Apply(s, 4, a, b, c); err != nil || !slices.Equal(taken, some()[1:2]) {
		t.Errorf("%v, %v", taken, err)
	}
	left := with(without(some(), place(1)), made(a, 4, false)...)
	expect(t, "firsts behind", s, with(with(left, made(b, 4, true)...), made(c, 4, true)...))
}

// P9.1: what no Out stands for is gone; what is made of nothing is there.
func TestApplyOfHalves(t *testing.T) {
	s := setOf(t, some())
	a, b := pay(nil, place(5), place(3)), pay(outs(0, 0, api.MaxMoney))
	if taken, err := undo.Apply(s, 4, a, b); err != nil || !slices.Equal(taken, []api.Spent{some()[5], some()[3]}) {
		t.Errorf("%v, %v", taken, err)
	}
	expect(t, "halves", s, with(without(some(), place(3), place(5)), made(b, 4, false)...))
}

// P9.1: the place that an Out had can be taken by the same transaction again, once it is spent.
func TestApplyOfOneAgain(t *testing.T) {
	a := first(outs(8))
	b := pay(outs(7), out(a, 0))
	s := &coins.Set{}
	taken, err := undo.Apply(s, 4, a, b, a)
	if err != nil || !slices.Equal(taken, made(a, 4, true)) {
		t.Errorf("%v, %v", taken, err)
	}
	expect(t, "again", s, with(made(a, 4, true), made(b, 4, false)...))
}

// P9.1: as many Ins and Outs as there are, also above what Check takes.
func TestApplyOfMany(t *testing.T) {
	var have []api.Spent
	var from []api.Point
	var values []uint64
	for n := range 700 {
		have = append(have, api.Spent{At: api.Point{N: uint32(3 * n)}, Coin: api.Money{Value: uint64(n)}})
		from = append(from, have[n].At)
		values = append(values, uint64(2*n))
	}
	x := pay(outs(values...), from...)
	s := setOf(t, have)
	taken, err := undo.Apply(s, 4, x)
	if err != nil || !slices.Equal(taken, have) {
		t.Errorf("%v, %v", taken, err)
	}
	expect(t, "many", s, made(x, 4, false))
	if err := undo.Unapply(s, taken, x); err != nil {
		t.Error(err)
	}
	expect(t, "many, taken back", s, have)
}

// refused are transactions that can't be put on some, with the place and the error that is met first.
func refused() map[string]struct {
	l   []api.Tx
	pos int
	err error
} {
	l := three()
	a, b, c := l[0], l[1], l[2]
	none := api.Point{Tx: someHash(1), N: 9}
	over := outs(1, 2, api.MaxMoney+1)
	return map[string]struct {
		l   []api.Tx
		pos int
		err error
	}{
		"what is not there":                  {[]api.Tx{pay(nil, none)}, 0, api.ErrMissing},
		"what is not there, behind others":   {[]api.Tx{a, b, pay(outs(1), place(0), place(3), none)}, 2, api.ErrMissing},
		"what is made later":                 {[]api.Tx{a, c, b}, 1, api.ErrMissing},
		"an Out past the end":                {[]api.Tx{a, b, pay(nil, out(b, 3))}, 2, api.ErrMissing},
		"its own kind of place of none":      {[]api.Tx{pay(outs(1), spend.Null(), spend.Null())}, 0, api.ErrMissing},
		"the place of none, beside another":  {[]api.Tx{a, pay(outs(1), place(1), spend.Null())}, 1, api.ErrMissing},
		"one coin twice, in one":             {[]api.Tx{a, pay(outs(1), place(1), place(2), place(1))}, 1, api.ErrMissing},
		"one coin twice, in two":             {[]api.Tx{a, b, pay(outs(1), place(3), place(2))}, 2, api.ErrMissing},
		"an Out twice":                       {[]api.Tx{a, b, c, pay(outs(1), out(b, 1))}, 3, api.ErrMissing},
		"one twice":                          {[]api.Tx{b, b}, 1, api.ErrMissing},
		"a first one twice":                  {[]api.Tx{a, b, a}, 2, api.ErrTwice},
		"one of no Ins twice":                {[]api.Tx{pay(outs(1)), pay(outs(1))}, 1, api.ErrTwice},
		"an Out above the most":              {[]api.Tx{first([]api.Out{{Value: api.MaxMoney + 1}})}, 0, api.ErrValue},
		"a last Out above the most":          {[]api.Tx{a, b, pay(over, out(b, 1), place(0))}, 2, api.ErrValue},
		"an Out of all bits":                 {[]api.Tx{a, pay([]api.Out{{Value: math.MaxUint64}}, place(1))}, 1, api.ErrValue},
		"a coin that is not there, and more": {[]api.Tx{pay(over, place(1), none)}, 0, api.ErrMissing},
		"more, and then what is not there":   {[]api.Tx{a, first(over), pay(nil, none)}, 1, api.ErrValue},
		"the first one of many":              {[]api.Tx{pay(nil, none), a, a, first(over)}, 0, api.ErrMissing},
	}
}

// P9.1: an error is told around its transaction's place; beside it nothing, and nothing is changed.
func TestApplyErrors(t *testing.T) {
	for what, x := range refused() {
		s := setOf(t, some())
		taken, err := undo.Apply(s, 5, x.l...)
		expectAt(t, what, err, x.pos, x.err)
		if len(taken) > 0 {
			t.Errorf("%s: %v was taken", what, taken)
		}
		expect(t, what, s, some())
	}
}

// P9.1: an Out of whose place a coin is there already is ErrTwice, whichever Out it is; the coin stays what it is.
func TestApplyOntoAnother(t *testing.T) {
	b := three()[1]
	for n := range b.Outs {
		other := api.Spent{At: out(b, n), Coin: api.Money{Value: 77, Lock: someHash(7), Height: 3, Base: true}}
		have := with(some(), other)
		s := setOf(t, have)
		taken, err := undo.Apply(s, 5, three()...)
		expectAt(t, "onto another", err, 1, api.ErrTwice)
		if len(taken) > 0 {
			t.Errorf("%v was taken", taken)
		}
		expect(t, "onto another", s, have)
	}
}

// P9.1: within one Out the amount is looked at ahead of the place; of two Outs the first one is.
func TestApplyWhichError(t *testing.T) {
	x := pay([]api.Out{{Value: 1}, {Value: api.MaxMoney + 1}}, place(1))
	for n, want := range []error{api.ErrTwice, api.ErrValue} {
		have := with(some(), api.Spent{At: out(x, n)})
		s := setOf(t, have)
		_, err := undo.Apply(s, 5, x)
		expectAt(t, "two errors", err, 0, want)
		expect(t, "two errors", s, have)
	}
}

// P9.1: behind an error a set goes on as if the call had not been.
func TestApplyBehindErrors(t *testing.T) {
	s := setOf(t, some())
	for _, x := range refused() {
		if _, err := undo.Apply(s, 5, x.l...); err == nil {
			t.Error("no error")
		}
	}
	taken, err := undo.Apply(s, 30, three()...)
	if err != nil || !slices.Equal(taken, takenOfThree(30)) {
		t.Errorf("%v, %v", taken, err)
	}
	expect(t, "behind errors", s, leftByThree(30))
}

// P9.1, P0.4: Apply neither changes nor keeps what it is handed, and reads nothing behind its lengths.
func TestApplyLeavesWhatIsHandedIn(t *testing.T) {
	memory := append(three(), pay(nil, place(99)), first(nil))
	for i := range memory {
		x := &memory[i]
		x.Ins = append(x.Ins, api.In{From: place(99)})[:len(x.Ins)]
		x.Outs = append(x.Outs, api.Out{Value: math.MaxUint64})[:len(x.Outs)]
	}
	was := copied(memory)
	s := setOf(t, some())
	taken, err := undo.Apply(s, 30, memory[:3]...)
	if err != nil || !slices.Equal(taken, takenOfThree(30)) {
		t.Errorf("%v, %v", taken, err)
	}
	if !equal(memory, was) {
		t.Error("what was handed in is changed")
	}
	for i := range memory {
		x := &memory[i]
		if behind := x.Ins[:len(x.Ins)+1][len(x.Ins)]; behind.From != place(99) {
			t.Error("what lies behind the Ins is changed")
		}
		if behind := x.Outs[:len(x.Outs)+1][len(x.Outs)]; behind.Value != math.MaxUint64 {
			t.Error("what lies behind the Outs is changed")
		}
		for n := range x.Ins {
			clear(x.Ins[n].Key)
		}
		clear(x.Ins)
		clear(x.Outs)
	}
	clear(memory)
	if !slices.Equal(taken, takenOfThree(30)) {
		t.Error("what was taken goes with what was handed in")
	}
	expect(t, "what was handed in is written over", s, leftByThree(30))
}

// P9.1, P0.4: what was taken is new memory, spare room too: neither the set nor another answer shows what is written there.
func TestApplyAnswersNewMemory(t *testing.T) {
	s, other := setOf(t, some()), setOf(t, some())
	taken, err := undo.Apply(s, 30, three()...)
	second, err2 := undo.Apply(other, 30, three()...)
	if err != nil || err2 != nil {
		t.Fatal(err, err2)
	}
	whole := taken[:cap(taken)]
	for i := range whole {
		whole[i] = api.Spent{At: place(9), Coin: api.Money{Value: 9}}
	}
	expect(t, "an answer written over", s, leftByThree(30))
	if !slices.Equal(second, takenOfThree(30)) {
		t.Error("a write into one answer is seen in another one")
	}
	if err := undo.Unapply(s, second, three()...); err != nil {
		t.Error(err)
	}
	expect(t, "taken back", s, some())
}

// P9.1: a key's bytes and a sequence tell one transaction from another, and so its Outs' places.
func TestApplyPlacesByID(t *testing.T) {
	a := pay(outs(1), place(1))
	b := copied([]api.Tx{a})[0]
	b.Ins[0].Key = bytes.Repeat([]byte{1}, 3)
	for _, x := range []api.Tx{a, b} {
		s := setOf(t, some())
		if _, err := undo.Apply(s, 1, x); err != nil {
			t.Error(err)
		}
		expect(t, "one of two", s, with(without(some(), place(1)), made(x, 1, false)...))
	}
}
