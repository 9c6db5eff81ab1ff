package undo_test

import (
	"math"
	"slices"
	"testing"

	"sargasso/api"
	"sargasso/coins"
	"sargasso/spend"
	"sargasso/undo"
)

// P9.1, P9.2: Unapply behind Apply leaves what was there, at each height.
func TestUnapplyBehindApply(t *testing.T) {
	for _, height := range []int{0, 30, api.MaxHeight, math.MaxInt, -1, math.MinInt} {
		s := setOf(t, some())
		taken, err := undo.Apply(s, height, three()...)
		if err != nil {
			t.Fatal(err)
		}
		if err := undo.Unapply(s, taken, three()...); err != nil {
			t.Error(err)
		}
		expect(t, "behind Apply", s, some())
	}
}

// P9.2: so it is for transactions of all kinds, and for as many Applies as are taken back, the last one first.
func TestUnapplyBehindApplies(t *testing.T) {
	null := api.Spent{At: spend.Null(), Coin: api.Money{Value: 9}}
	again := first(outs(8))
	has := with(some(), null)
	turns := [][]api.Tx{
		three(),
		nil,
		{{}, {Version: 3}},
		{first(nil), first(outs(1))},
		{pay(nil, place(5), out(three()[0], 1))},
		{pay(outs(0, 0, api.MaxMoney))},
		{pay(outs(4), spend.Null(), place(4)), again, pay(outs(7), out(again, 0)), again},
	}
	s := setOf(t, has)
	var takens [][]api.Spent
	var sums []api.Hash
	for i, l := range turns {
		sums = append(sums, s.Sum())
		taken, err := undo.Apply(s, 10+i, l...)
		if err != nil {
			t.Fatalf("turn %d: %v", i, err)
		}
		takens = append(takens, taken)
	}
	for i, l := range slices.Backward(turns) {
		if err := undo.Unapply(s, takens[i], l...); err != nil || s.Sum() != sums[i] {
			t.Errorf("turn %d, taken back: %v", i, err)
		}
	}
	expect(t, "all taken back", s, has)
}

// P9.1: Unapply of what stands there by hand: Outs are spent, what was taken stands again, all of its fields as they are told.
func TestUnapply(t *testing.T) {
	s := setOf(t, leftByThree(30))
	if err := undo.Unapply(s, takenOfThree(30), three()...); err != nil {
		t.Error(err)
	}
	expect(t, "by hand", s, some())
	other := []api.Spent{
		{At: place(1), Coin: api.Money{Value: 1, Lock: someHash(9), Height: math.MaxInt, Base: true}},
		{At: place(2), Coin: api.Money{Height: math.MinInt}},
	}
	b := three()[1]
	s = setOf(t, made(b, 4, false))
	if err := undo.Unapply(s, other, b); err != nil {
		t.Error(err)
	}
	expect(t, "other coins at these places", s, other)
}

// P9.1: Unapply of nothing changes nothing.
func TestUnapplyOfNothing(t *testing.T) {
	for _, have := range [][]api.Spent{nil, some()} {
		s := setOf(t, have)
		for _, taken := range [][]api.Spent{nil, {}} {
			for _, l := range [][]api.Tx{nil, {}, {{}}, {{}, {}}, {first(nil)}} {
				if err := undo.Unapply(s, taken, l...); err != nil {
					t.Error(err)
				}
			}
		}
		expect(t, "nothing", s, have)
	}
}

// P9.1: a part of what was put on can be taken back, with its part of what was taken.
func TestUnapplyOfParts(t *testing.T) {
	l, taken := three(), takenOfThree(30)
	s := setOf(t, leftByThree(30))
	ends := []int{0, 0, 2, 4}
	for i, x := range slices.Backward(l) {
		if err := undo.Unapply(s, taken[ends[i]:ends[i+1]], x); err != nil {
			t.Errorf("number %d: %v", i, err)
		}
	}
	expect(t, "part by part", s, some())
}

// P9.1: an Out's coin of another height, or not of a first transaction (or of one), is its coin all the same.
func TestUnapplyOfOtherHeights(t *testing.T) {
	for i := range leftByThree(30) {
		have := leftByThree(30)
		if slices.Contains(some(), have[i]) {
			continue
		}
		for _, height := range []int{0, 29, -1, math.MaxInt} {
			have[i].Coin.Height = height
			have[i].Coin.Base = !have[i].Coin.Base
			s := setOf(t, have)
			if err := undo.Unapply(s, takenOfThree(30), three()...); err != nil {
				t.Error(err)
			}
			expect(t, "another height", s, some())
		}
	}
}

// state is what Unapply is handed.
type state struct {
	have, taken []api.Spent
	l           []api.Tx
}

// change makes another coin of the one at p.
func (x *state) change(p api.Point, f func(c *api.Spent)) {
	for i := range x.have {
		if x.have[i].At == p {
			f(&x.have[i])
		}
	}
}

// put adds a coin of nothing at p.
func (x *state) put(p api.Point) {
	x.have = append(x.have, api.Spent{At: p})
}

// lose takes the coin at p away.
func (x *state) lose(p api.Point) {
	x.have = without(x.have, p)
}

// fault is a change to what three leave behind, with the place and the error that is met first.
type fault struct {
	pos int
	err error
	f   func(x *state)
}

// faultsOfOuts are those in the coins of the Outs: of the third transaction, the second, the first.
func faultsOfOuts() map[string]fault {
	l := three()
	a, b, c := l[0], l[1], l[2]
	value := func(o *api.Spent) { o.Coin.Value++ }
	lock := func(o *api.Spent) { o.Coin.Lock[31]++ }
	return map[string]fault{
		"a first Out is not there":           {2, api.ErrMissing, func(x *state) { x.lose(out(c, 0)) }},
		"a last Out is not there":            {2, api.ErrMissing, func(x *state) { x.lose(out(c, 1)) }},
		"an Out of the second":               {1, api.ErrMissing, func(x *state) { x.lose(out(b, 0)) }},
		"an Out of the first":                {0, api.ErrMissing, func(x *state) { x.lose(out(a, 1)) }},
		"no coins":                           {2, api.ErrMissing, func(x *state) { x.have = nil }},
		"another value":                      {2, api.ErrShape, func(x *state) { x.change(out(c, 0), value) }},
		"another value behind":               {2, api.ErrShape, func(x *state) { x.change(out(c, 1), value) }},
		"another lock":                       {2, api.ErrShape, func(x *state) { x.change(out(c, 0), lock) }},
		"another lock behind":                {2, api.ErrShape, func(x *state) { x.change(out(c, 1), lock) }},
		"another value of the second":        {1, api.ErrShape, func(x *state) { x.change(out(b, 2), value) }},
		"another lock of the second":         {1, api.ErrShape, func(x *state) { x.change(out(b, 2), lock) }},
		"another value of the first":         {0, api.ErrShape, func(x *state) { x.change(out(a, 0), value) }},
		"another lock of the first":          {0, api.ErrShape, func(x *state) { x.change(out(a, 1), lock) }},
		"another one ahead of none":          {2, api.ErrShape, func(x *state) { x.change(out(c, 0), lock); x.lose(out(c, 1)) }},
		"none ahead of another one":          {2, api.ErrMissing, func(x *state) { x.lose(out(c, 0)); x.change(out(c, 1), lock) }},
		"the last transaction's":             {2, api.ErrShape, func(x *state) { x.change(out(c, 1), value); x.lose(out(b, 0)); x.lose(out(a, 0)) }},
		"not that of the middle by taken":    {1, api.ErrShape, func(x *state) { x.taken[2].Coin.Value++ }},
		"not that of the middle, the lock":   {1, api.ErrShape, func(x *state) { x.taken[2].Coin.Lock[0]++ }},
		"an Out ahead of what is taken":      {2, api.ErrMissing, func(x *state) { x.lose(out(c, 1)); x.taken = nil }},
		"another one ahead of what is taken": {2, api.ErrShape, func(x *state) { x.change(out(c, 1), value); x.put(place(0)) }},
		"a transaction less":                 {1, api.ErrMissing, func(x *state) { x.l = x.l[:2] }},
		"a transaction twice":                {2, api.ErrMissing, func(x *state) { x.l = slices.Insert(x.l, 3, x.l[2]); x.taken = append(x.taken, x.taken[2:]...) }},
		"in another order":                   {2, api.ErrMissing, func(x *state) { x.l[1], x.l[2] = x.l[2], x.l[1] }},
		"another transaction":                {2, api.ErrMissing, func(x *state) { x.l[2].Time++ }},
		"an Out that can't be":               {2, api.ErrMissing, func(x *state) { x.l[2].Outs = outs(api.MaxMoney + 1) }},
	}
}

// faultsOfTaken are those in what was taken, and in where it goes back to.
func faultsOfTaken() map[string]fault {
	null := api.Spent{At: spend.Null()}
	over := uint64(api.MaxMoney + 1)
	return map[string]fault{
		"nothing taken":                    {2, api.ErrShape, func(x *state) { x.taken = nil }},
		"the first one is cut off":         {1, api.ErrShape, func(x *state) { x.taken = x.taken[1:] }},
		"the last one is cut off":          {2, api.ErrShape, func(x *state) { x.taken = x.taken[:3] }},
		"the last one alone":               {2, api.ErrShape, func(x *state) { x.taken = x.taken[3:] }},
		"enough for the last one":          {1, api.ErrShape, func(x *state) { x.taken = x.taken[2:] }},
		"another N at the end":             {2, api.ErrShape, func(x *state) { x.taken[3].At.N++ }},
		"another Tx at the end":            {2, api.ErrShape, func(x *state) { x.taken[3].At.Tx[31]++ }},
		"another N ahead of it":            {2, api.ErrShape, func(x *state) { x.taken[2].At.N-- }},
		"another N at the beginning":       {1, api.ErrShape, func(x *state) { x.taken[0].At.N++ }},
		"in another order":                 {2, api.ErrShape, func(x *state) { x.taken[2], x.taken[3] = x.taken[3], x.taken[2] }},
		"another order at the beginning":   {1, api.ErrShape, func(x *state) { x.taken[0], x.taken[1] = x.taken[1], x.taken[0] }},
		"the other way round":              {2, api.ErrShape, func(x *state) { slices.Reverse(x.taken) }},
		"one of a first transaction":       {0, api.ErrShape, func(x *state) { x.taken = slices.Insert(x.taken, 0, null) }},
		"one too many":                     {0, api.ErrShape, func(x *state) { x.taken = slices.Insert(x.taken, 0, some()[3]) }},
		"one too many at the end":          {2, api.ErrShape, func(x *state) { x.taken = append(x.taken, some()[3]) }},
		"many too many":                    {0, api.ErrShape, func(x *state) { x.taken = append(some(), x.taken...) }},
		"no transactions":                  {0, api.ErrShape, func(x *state) { x.l = nil }},
		"a first one alone":                {0, api.ErrShape, func(x *state) { x.l = x.l[:1] }},
		"the last two alone":               {0, api.ErrShape, func(x *state) { x.l = x.l[2:] }},
		"an amount at the end":             {2, api.ErrValue, func(x *state) { x.taken[3].Coin.Value = over }},
		"an amount of all bits":            {2, api.ErrValue, func(x *state) { x.taken[2].Coin.Value = math.MaxUint64 }},
		"an amount at the beginning":       {1, api.ErrValue, func(x *state) { x.taken[0].Coin.Value = over }},
		"one that is there, at the end":    {2, api.ErrTwice, func(x *state) { x.put(place(0)) }},
		"one that is there, in the middle": {2, api.ErrTwice, func(x *state) { x.put(out(three()[1], 1)) }},
		"one that is there":                {1, api.ErrTwice, func(x *state) { x.put(place(1)) }},
		"the same one that is there":       {1, api.ErrTwice, func(x *state) { x.have = append(x.have, some()[2]) }},
		"the place ahead of the amount":    {2, api.ErrShape, func(x *state) { x.taken[3].At.N++; x.taken[3].Coin.Value = over }},
		"the place ahead of what is there": {2, api.ErrShape, func(x *state) { x.taken[3].At.N++; x.put(place(0)) }},
		"the amount ahead of what is":      {2, api.ErrValue, func(x *state) { x.taken[3].Coin.Value = over; x.put(place(0)) }},
		"an In ahead of a later amount":    {1, api.ErrTwice, func(x *state) { x.put(place(2)); x.taken[0].Coin.Value = over }},
		"an amount ahead of a later place": {1, api.ErrValue, func(x *state) { x.taken[1].Coin.Value = over; x.taken[0].At.N++ }},
		"a place ahead of a later amount":  {1, api.ErrShape, func(x *state) { x.taken[1].At.N++; x.taken[0].Coin.Value = over }},
		"what is there ahead of too short": {1, api.ErrTwice, func(x *state) { x.put(place(2)); x.taken = x.taken[1:] }},
		"the last transaction's":           {2, api.ErrTwice, func(x *state) { x.put(place(0)); x.put(place(1)); x.taken[1].At.N++ }},
		"an error ahead of what is left":   {1, api.ErrTwice, func(x *state) { x.put(place(1)); x.taken = slices.Insert(x.taken, 0, null) }},
		"the first's ahead of what is left": {0, api.ErrMissing, func(x *state) {
			x.lose(out(three()[0], 0))
			x.taken = slices.Insert(x.taken, 0, null)
		}},
		"one coin twice": {1, api.ErrTwice, func(x *state) {
			b := pay(outs(1), place(1), place(1))
			x.l = []api.Tx{first(outs(2)), b}
			x.have = with(made(b, 3, false), made(x.l[0], 3, true)...)
			x.taken = []api.Spent{some()[1], some()[1]}
		}},
	}
}

// P9.1: each error is told around the transaction's place (what is left of taken around 0), and nothing is changed.
func TestUnapplyErrors(t *testing.T) {
	for _, faults := range []map[string]fault{faultsOfOuts(), faultsOfTaken()} {
		for what, x := range faults {
			now := state{leftByThree(30), takenOfThree(30), three()}
			x.f(&now)
			was := slices.Clone(now.have)
			s := setOf(t, now.have)
			expectAt(t, what, undo.Unapply(s, now.taken, now.l...), x.pos, x.err)
			expect(t, what, s, was)
		}
	}
}

// P9.1: behind an error a set goes on as if the call had not been.
func TestUnapplyBehindErrors(t *testing.T) {
	s := setOf(t, leftByThree(30))
	for n := range takenOfThree(30) {
		expectAt(t, "too short", undo.Unapply(s, takenOfThree(30)[n+1:], three()...), []int{1, 1, 2, 2}[n], api.ErrShape)
	}
	if err := undo.Unapply(s, takenOfThree(30), three()...); err != nil {
		t.Error(err)
	}
	expect(t, "behind errors", s, some())
}

// P9.1: a first transaction takes nothing of taken, and the place of none gets no coin; beside another In it is a place as others are.
func TestUnapplyOfBases(t *testing.T) {
	null := api.Spent{At: spend.Null(), Coin: api.Money{Value: 9}}
	base := first(outs(5, 6))
	for _, have := range [][]api.Spent{nil, some(), {null}} {
		s := setOf(t, with(have, made(base, 3, true)...))
		expectAt(t, "a first one", undo.Unapply(s, []api.Spent{null}, base), 0, api.ErrShape)
		expect(t, "a first one", s, with(have, made(base, 3, true)...))
		if err := undo.Unapply(s, nil, base); err != nil {
			t.Error(err)
		}
		expect(t, "a first one", s, have)
	}
	two := pay(outs(5), spend.Null(), place(1))
	s := setOf(t, made(two, 3, false))
	expectAt(t, "two Ins", undo.Unapply(s, some()[1:2], two), 0, api.ErrShape)
	if err := undo.Unapply(s, []api.Spent{null, some()[1]}, two); err != nil {
		t.Error(err)
	}
	expect(t, "two Ins", s, []api.Spent{null, some()[1]})
}

// P9.1, P0.4: Unapply neither changes nor keeps what it is handed, and reads nothing behind its lengths.
func TestUnapplyLeavesWhatIsHandedIn(t *testing.T) {
	behind := api.Spent{At: place(3), Coin: api.Money{Value: 3}}
	for _, more := range []int{0, 1} {
		taken := append(takenOfThree(30), behind, behind)
		l := append(three(), pay(nil, place(3)), pay(nil, place(3)))
		for i := range l {
			l[i].Ins = append(l[i].Ins, api.In{From: place(3)})[:len(l[i].Ins)]
			l[i].Outs = append(l[i].Outs, api.Out{Value: 3})[:len(l[i].Outs)]
		}
		wasTaken, was := slices.Clone(taken), copied(l)
		s := setOf(t, leftByThree(30))
		err := undo.Unapply(s, taken[:4+more], l[:3]...)
		if more == 0 && err != nil {
			t.Error(err)
		}
		if more == 1 {
			expectAt(t, "one more", err, 2, api.ErrShape)
		}
		if !slices.Equal(taken, wasTaken) || !equal(l, was) {
			t.Error("what was handed in is changed")
		}
		for i := range l {
			if l[i].Ins[:len(l[i].Ins)+1][len(l[i].Ins)].From != place(3) || l[i].Outs[:len(l[i].Outs)+1][len(l[i].Outs)].Value != 3 {
				t.Error("what lies behind is changed")
			}
		}
		clear(taken)
		clear(l)
		expect(t, "what was handed in is written over", s, [][]api.Spent{some(), leftByThree(30)}[more])
	}
}

// P9.1, P0.5: calls on one set are nothing to another one.
func TestSetsApart(t *testing.T) {
	s, other := setOf(t, some()), setOf(t, leftByThree(30))
	if _, err := undo.Apply(s, 30, three()...); err != nil {
		t.Error(err)
	}
	if err := undo.Unapply(other, takenOfThree(30), three()...); err != nil {
		t.Error(err)
	}
	expect(t, "the one that was put on", s, leftByThree(30))
	expect(t, "the other one", other, some())
	expect(t, "a third one", &coins.Set{}, nil)
}
