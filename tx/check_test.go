package tx_test

import (
	"math"
	"testing"

	"sargasso/api"
	"sargasso/tx"
)

// asked is a transaction and what Check should say of it.
type asked struct {
	what string
	t    api.Tx
	err  error
}

// expect asks Check about each.
func expect(t *testing.T, l []asked) {
	t.Helper()
	for _, x := range l {
		for range 2 {
			if err := tx.Check(x.t); err != x.err {
				t.Errorf("%s: %v; it should be %v", x.what, err, x.err)
			}
		}
	}
}

// P4.2: Ins and Outs from one to the most are taken; none, or one more than the most, is ErrMany.
func TestCheckCounts(t *testing.T) {
	expect(t, []asked{
		{"the zero value", api.Tx{}, api.ErrMany},
		{"empty lists", api.Tx{Ins: []api.In{}, Outs: []api.Out{}}, api.ErrMany},
		{"no Ins", sized(0, 0, 1), api.ErrMany},
		{"no Outs", sized(1, 0, 0), api.ErrMany},
		{"one of each", sized(1, 0, 1), nil},
		{"two of each", sized(2, 3, 2), nil},
		{"one In less than the most", sized(api.MaxIns-1, 0, 1), nil},
		{"the most Ins", sized(api.MaxIns, 0, 1), nil},
		{"one In more than the most", sized(api.MaxIns+1, 0, 1), api.ErrMany},
		{"one Out less than the most", sized(1, 0, api.MaxOuts-1), nil},
		{"the most Outs", sized(1, 0, api.MaxOuts), nil},
		{"one Out more than the most", sized(1, 0, api.MaxOuts+1), api.ErrMany},
		{"the most Ins, no Outs", sized(api.MaxIns, 0, 0), api.ErrMany},
		{"no Ins, the most Outs", sized(0, 0, api.MaxOuts), api.ErrMany},
		{"300 Ins", sized(300, 0, 1), api.ErrMany},
		{"300 Outs", sized(1, 0, 300), api.ErrMany},
		{"new coins, no Outs", api.Tx{Ins: []api.In{nullIn(4)}}, api.ErrMany},
		{"new coins, the most Outs", api.Tx{Ins: []api.In{nullIn(4)}, Outs: make([]api.Out, api.MaxOuts)}, nil},
		{"new coins, one Out more", api.Tx{Ins: []api.In{nullIn(4)}, Outs: make([]api.Out, api.MaxOuts+1)}, api.ErrMany},
	})
}

// withSize is a transaction of so many bytes whose Keys are no longer than they may be.
func withSize(t *testing.T, size int) api.Tx {
	x := sized(25, 0, api.MaxOuts)
	for i := range x.Ins {
		x.Ins[i].Key = someKey(min(size-tx.Size(x), api.MaxKey))
	}
	if n := len(written(x)); n != size {
		t.Fatalf("%d bytes, not %d", n, size)
	}
	return x
}

// P4.2: MaxTx bytes are taken; one more is ErrLong.
func TestCheckSize(t *testing.T) {
	expect(t, []asked{
		{"MaxTx - 1 bytes", withSize(t, api.MaxTx-1), nil},
		{"MaxTx bytes", withSize(t, api.MaxTx), nil},
		{"MaxTx + 1 bytes", withSize(t, api.MaxTx+1), api.ErrLong},
		{"MaxTx + 2 bytes", withSize(t, api.MaxTx+2), api.ErrLong},
		{"the most of Ins and Outs", sized(api.MaxIns, 0, api.MaxOuts), api.ErrLong},
		{"the most of Ins and Keys", sized(api.MaxIns, api.MaxKey, 1), api.ErrLong},
		{"the most of all", sized(api.MaxIns, api.MaxKey, api.MaxOuts), api.ErrLong},
		{"a Key of 65,536 bytes", sized(1, 1<<16, 1), api.ErrLong},
	})
}

// P4.2: a Key of MaxKey bytes is taken; one more is ErrKey, whichever In has it.
func TestCheckKeys(t *testing.T) {
	expect(t, []asked{
		{"no Key", sized(1, 0, 1), nil},
		{"MaxKey - 1 bytes", sized(1, api.MaxKey-1, 1), nil},
		{"MaxKey bytes", sized(3, api.MaxKey, 1), nil},
		{"MaxKey + 1 bytes", sized(1, api.MaxKey+1, 1), api.ErrKey},
		{"252 bytes", sized(1, 252, 1), api.ErrKey},
		{"253 bytes", sized(1, 253, 1), api.ErrKey},
		{"336 bytes", sized(1, 336, 1), api.ErrKey},
		{"new coins, MaxKey bytes", based(api.MaxKey), nil},
		{"new coins, MaxKey + 1 bytes", based(api.MaxKey + 1), api.ErrKey},
	})
	for at := range 4 {
		x := sized(4, 3, 1)
		x.Ins[at].Key = someKey(api.MaxKey + 1)
		if err := tx.Check(x); err != api.ErrKey {
			t.Errorf("too long a Key at In %d: %v", at, err)
		}
		x.Ins[at].Key = someKey(api.MaxKey)
		if err := tx.Check(x); err != nil {
			t.Errorf("the longest Key at In %d: %v", at, err)
		}
	}
}

// P4.2: a Key that leaves just MaxTx bytes, but is too long, is ErrKey; with one byte more it is ErrLong.
func TestCheckKeyOrSize(t *testing.T) {
	x := sized(1, 0, 1)
	x.Ins[0].Key = someKey(api.MaxTx - tx.Size(x) - 2) // its length takes two bytes more
	if n := len(written(x)); n != api.MaxTx {
		t.Fatalf("%d bytes", n)
	}
	if err := tx.Check(x); err != api.ErrKey {
		t.Errorf("MaxTx bytes: %v", err)
	}
	x.Ins[0].Key = append(x.Ins[0].Key, 0)
	if err := tx.Check(x); err != api.ErrLong {
		t.Errorf("one byte more: %v", err)
	}
}

// P4.2: amounts up to MaxMoney in all are taken; those whose compact.Sum is none are ErrValue.
func TestCheckValues(t *testing.T) {
	const most = api.MaxMoney
	for _, x := range []struct {
		values []uint64
		err    error
	}{
		{[]uint64{0}, nil},
		{[]uint64{0, 0, 0}, nil},
		{[]uint64{most}, nil},
		{[]uint64{0, most, 0}, nil},
		{[]uint64{most - 1, 1}, nil},
		{[]uint64{1, most - 2, 1}, nil},
		{[]uint64{most + 1}, api.ErrValue},
		{[]uint64{0, most + 1}, api.ErrValue},
		{[]uint64{most, 1}, api.ErrValue},
		{[]uint64{1, most}, api.ErrValue},
		{[]uint64{most - 1, 1, 1}, api.ErrValue},
		{[]uint64{most, most}, api.ErrValue},
		{[]uint64{math.MaxUint64}, api.ErrValue},
		{[]uint64{math.MaxUint64, 1}, api.ErrValue},
		{[]uint64{5, math.MaxUint64 - 3}, api.ErrValue},
		{[]uint64{1 << 63, 1 << 63}, api.ErrValue},
		{[]uint64{1 << 62, 1 << 62, 1 << 62, 1 << 62, 3}, api.ErrValue},
	} {
		for _, paying := range []api.Tx{sized(2, 3, 0), {Ins: []api.In{nullIn(4)}}} {
			for _, value := range x.values {
				paying.Outs = append(paying.Outs, api.Out{Value: value, Lock: someHash(9)})
			}
			if err := tx.Check(paying); err != x.err {
				t.Errorf("amounts %v: %v", x.values, err)
			}
		}
	}
}

// P4.2: two Ins with one From are ErrTwice, wherever they stand, whatever else they have; ones that are unlike a little are taken.
func TestCheckTwice(t *testing.T) {
	const many = 12
	for first := range many {
		for second := first + 1; second < many; second++ {
			x := sized(many, 3, 1)
			x.Ins[second].From = x.Ins[first].From
			if err := tx.Check(x); err != api.ErrTwice {
				t.Errorf("Ins %d and %d: %v", first, second, err)
			}
			x.Ins[second].From.N ^= 1 << 31
			if err := tx.Check(x); err != nil {
				t.Errorf("Ins %d and %d with another N: %v", first, second, err)
			}
			x.Ins[second].From = x.Ins[first].From
			x.Ins[second].From.Tx[31] ^= 1
			if err := tx.Check(x); err != nil {
				t.Errorf("Ins %d and %d with another Tx: %v", first, second, err)
			}
		}
	}
	alike := sized(3, 3, 1)
	alike.Ins[1].Key, alike.Ins[1].Seq = alike.Ins[0].Key, alike.Ins[0].Seq
	same := sized(3, 3, 1)
	same.Ins[1] = same.Ins[0]
	thrice := sized(3, 3, 1)
	thrice.Ins[1].From, thrice.Ins[2].From = thrice.Ins[0].From, thrice.Ins[0].From
	outs := sized(1, 3, 3)
	outs.Outs[1], outs.Outs[2] = outs.Outs[0], outs.Outs[0]
	expect(t, []asked{
		{"one Key and Seq in two Ins", alike, nil},
		{"one In twice", same, api.ErrTwice},
		{"one From three times", thrice, api.ErrTwice},
		{"one Out three times", outs, nil},
		{"zero Ins", api.Tx{Ins: make([]api.In, 2), Outs: make([]api.Out, 1)}, api.ErrTwice},
	})
}

// P4.2: a null In is taken where it is alone and its Key has four bytes; else it is ErrBase, two of them ErrTwice.
func TestCheckBase(t *testing.T) {
	noKey := based(4)
	noKey.Ins[0].Key = nil
	l := []asked{
		{"a null In, no Key", noKey, api.ErrBase},
		{"a null In, an empty Key", based(0), api.ErrBase},
		{"a null In, a Key of one byte", based(1), api.ErrBase},
		{"a null In, a Key of three bytes", based(3), api.ErrBase},
		{"a null In, a Key of four bytes", based(4), nil},
		{"a null In, a Key of five bytes", based(5), nil},
		{"two null Ins", api.Tx{Ins: []api.In{nullIn(4), nullIn(4)}, Outs: make([]api.Out, 1)}, api.ErrTwice},
		{"two null Ins, unlike Keys", api.Tx{Ins: []api.In{nullIn(4), nullIn(9)}, Outs: make([]api.Out, 1)}, api.ErrTwice},
		{"two null Ins and another one", api.Tx{Ins: []api.In{nullIn(4), someIn(1, 1), nullIn(4)}, Outs: make([]api.Out, 1)}, api.ErrTwice},
		{"one other In, no Key", sized(1, 0, 1), nil},
		{"one other In, a Key of three bytes", sized(1, 3, 1), nil},
		{"the zero In", api.Tx{Ins: make([]api.In, 1), Outs: make([]api.Out, 1)}, nil},
		{"no transaction, N one less", api.Tx{Ins: []api.In{{From: api.Point{N: math.MaxUint32 - 1}}, someIn(1, 0)}, Outs: make([]api.Out, 1)}, nil},
		{"a transaction, the greatest N", api.Tx{Ins: []api.In{{From: api.Point{Tx: api.Hash{1}, N: math.MaxUint32}}}, Outs: make([]api.Out, 1)}, nil},
	}
	for _, key := range []int{0, 3, 4, api.MaxKey} {
		for at := range 4 {
			x := sized(4, key, 1)
			x.Ins[at] = nullIn(key)
			l = append(l, asked{"a null In beside others", x, api.ErrBase})
		}
		two := api.Tx{Ins: []api.In{nullIn(key), someIn(3, 4)}, Outs: make([]api.Out, 1)}
		l = append(l, asked{"a null In ahead of one other", two, api.ErrBase})
	}
	expect(t, l)
}

// fault is a change that makes a transaction wrong, and the error for it.
type fault struct {
	err  error
	make func(t *api.Tx)
}

// faults are all of Check's, in its order; each can be made beside each other one.
func faults() []fault {
	return []fault{
		{api.ErrMany, func(t *api.Tx) { t.Outs = append(t.Outs, make([]api.Out, api.MaxOuts)...) }},
		{api.ErrLong, func(t *api.Tx) {
			for i := len(t.Ins); i < api.MaxIns; i++ {
				t.Ins = append(t.Ins, someIn(i, 60))
			}
		}},
		{api.ErrKey, func(t *api.Tx) { t.Ins[2].Key = someKey(api.MaxKey + 1) }},
		{api.ErrValue, func(t *api.Tx) { t.Outs[1].Value = api.MaxMoney + 1 }},
		{api.ErrTwice, func(t *api.Tx) { t.Ins[1].From = t.Ins[0].From }},
		{api.ErrBase, func(t *api.Tx) { t.Ins[3] = nullIn(4) }},
	}
}

// P4.2: of all errors that are due the first in the document's order is told.
func TestCheckTellsTheFirst(t *testing.T) {
	l := faults()
	for which := range 1 << len(l) {
		x := sized(4, 10, 2)
		var want error
		for i := len(l) - 1; i >= 0; i-- {
			if which>>i&1 == 1 {
				l[i].make(&x)
				want = l[i].err
			}
		}
		if err := tx.Check(x); err != want {
			t.Errorf("faults %06b: %v; it should be %v", which, err, want)
		}
	}
}

// P4.2: no Ins, no Outs and too many Ins are told ahead of all others.
func TestCheckTellsCountsFirst(t *testing.T) {
	noIns := sized(0, 0, 2)
	noIns.Outs[0].Value = math.MaxUint64
	manyIns := sized(api.MaxIns+1, 90, 1)
	manyIns.Ins[1] = manyIns.Ins[0]
	manyIns.Outs[0].Value = math.MaxUint64
	expect(t, []asked{
		{"no Ins, an amount", noIns, api.ErrMany},
		{"no Outs, one From twice", api.Tx{Ins: make([]api.In, 2)}, api.ErrMany},
		{"no Outs, a long Key", sized(1, 5000, 0), api.ErrMany},
		{"no Outs, new coins with no Key", api.Tx{Ins: []api.In{nullIn(0)}}, api.ErrMany},
		{"too many Ins, and all else", manyIns, api.ErrMany},
	})
}

// P4.2: of new coins, too, the first in the document's order is told.
func TestCheckTellsTheFirstOfBase(t *testing.T) {
	rich := func(x api.Tx) api.Tx {
		x.Outs[0].Value = api.MaxMoney + 1
		return x
	}
	many := based(3)
	many.Outs = make([]api.Out, api.MaxOuts+1)
	expect(t, []asked{
		{"too short a Key, too many Outs", many, api.ErrMany},
		{"too short a Key, too much money", rich(based(3)), api.ErrValue},
		{"too long a Key, too much money", rich(based(api.MaxKey + 1)), api.ErrKey},
		{"far too long a Key, too much money", rich(based(api.MaxTx)), api.ErrLong},
		{"two null Ins, too much money", rich(api.Tx{Ins: []api.In{nullIn(4), nullIn(4)}, Outs: make([]api.Out, 1)}), api.ErrValue},
		{"two null Ins, too long a Key", api.Tx{Ins: []api.In{nullIn(4), nullIn(81)}, Outs: make([]api.Out, 1)}, api.ErrKey},
	})
}

// P4.2: Check looks at the transaction alone: not at its Version, its Time, a Seq or a lock.
func TestCheckLooksAtNoMore(t *testing.T) {
	for _, n := range []uint32{0, 1, 2, 1 << 31, math.MaxUint32} {
		x := sized(2, 3, 1)
		x.Version, x.Time, x.Ins[0].Seq = n, n, n
		x.Outs[0].Lock = api.Hash{}
		if err := tx.Check(x); err != nil {
			t.Errorf("numbers of %d: %v", n, err)
		}
		y := based(4)
		y.Version, y.Time, y.Ins[0].Seq = n, n, n
		if err := tx.Check(y); err != nil {
			t.Errorf("new coins, numbers of %d: %v", n, err)
		}
	}
}

// P4.2: Check looks at nothing behind the lengths of the lists.
func TestCheckReadsNothingBehind(t *testing.T) {
	x := sized(2, 3, 2)
	x.Ins[1] = x.Ins[0]
	x.Outs[1].Value = math.MaxUint64
	x.Ins, x.Outs = x.Ins[:1], x.Outs[:1]
	x.Ins[0].Key = someKey(api.MaxKey + 1)[:api.MaxKey]
	if err := tx.Check(x); err != nil {
		t.Error(err)
	}
}
