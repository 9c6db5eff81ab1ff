package conn_test

import (
	"bytes"
	"math"
	"slices"
	"testing"

	"sargasso/api"
	"sargasso/conn"
	"sargasso/spend"
	"sargasso/tx"
)

// most is the greatest amount.
const most = api.MaxMoney

// asked is what Tx is asked with, at the height that pasts have.
type asked struct {
	tx       api.Tx
	coins    conn.Coins
	pasts    []uint32
	maturity int
}

// expectTx asks for Tx, which should be this fee, or else this fault.
func expectTx(t *testing.T, what string, x asked, fee uint64, want fault) {
	t.Helper()
	for range 2 {
		got, err := conn.Tx(x.tx, x.coins, len(x.pasts), x.pasts, x.maturity)
		if f := faultOf(err); got != fee || f != want {
			t.Errorf("%s: Tx of %d Ins at height %d: %d, %v, not %d, %v", what, len(x.tx.Ins), len(x.pasts), got, f, fee, want)
		}
		around(err) // an error that is handed out is the caller's
	}
}

// P16.1: the fee is what comes in less what goes out; as much is 0.
func TestTxIsTheFee(t *testing.T) {
	l := plain(6)
	for _, x := range []struct {
		tx  api.Tx
		fee uint64
	}{
		{pay(90, 1), 10}, {pay(99, 1), 1}, {pay(100, 1), 0}, {pay(0, 1), 100}, {pay(150, 1, 2), 50}, {pay(1, 5, 0, 3, 2), 399},
	} {
		expectTx(t, "the fee", asked{x.tx, l, tens(10), 100}, x.fee, fault{})
		expectTx(t, "of a set", asked{x.tx, setOf(t, l.all()), tens(10), 100}, x.fee, fault{})
	}
	two := pay(30, 1)
	two.Outs = append(two.Outs, api.Out{Value: 40})
	expectTx(t, "two Outs", asked{two, l, tens(10), 100}, 30, fault{})
	two.Outs = nil
	expectTx(t, "no Outs", asked{two, l, tens(10), 100}, 100, fault{})
}

// P16.1: of no Ins nothing comes in, and no coin is asked for; its Time counts for nothing, since all of its Ins are Final.
func TestTxOfNoIns(t *testing.T) {
	for _, l := range []some{nil, plain(3)} {
		expectTx(t, "the zero value", asked{api.Tx{}, l, tens(1), 0}, 0, fault{})
		expectTx(t, "no Ins", asked{timed(pay(0), 7), l, tens(5), 0}, 0, fault{})
		expectTx(t, "no Ins", asked{pay(1), l, tens(5), 0}, 0, fails(api.ErrLess))
	}
}

// P16.1: pasts that are not as many as height, or none, are ErrShape, ahead of all.
func TestTxShape(t *testing.T) {
	wrong := pay(101, 1, 9)
	heights := []int{math.MinInt, -1 << 32, -9, -1, 0, 1, 2, 3, 4, 5, 6, 1 << 16, 1 << 32, 1<<32 + 4, 1<<16 + 4, math.MaxInt}
	for _, height := range heights {
		for n := range 7 {
			if height == n && n > 0 {
				continue
			}
			for _, x := range []api.Tx{pay(90, 1), wrong, {}} {
				fee, err := conn.Tx(x, plain(3), height, tens(9)[:n], 0)
				if fee != 0 || err != api.ErrShape {
					t.Errorf("height %d, %d pasts: %d, %v", height, n, fee, err)
				}
			}
		}
	}
	for n := 1; n < 7; n++ {
		expectTx(t, "as many", asked{pay(90, 1), plain(3), tens(9)[:n], 0}, 10, fault{})
	}
}

// P16.1: an In whose coin is not there is ErrMissing, around its place.
func TestTxMissing(t *testing.T) {
	l := plain(5)
	for i := range 4 {
		for _, from := range []api.Point{at(5), at(9), {}, spend.Null(), {Tx: at(4).Tx, N: 5}, {Tx: at(5).Tx, N: 4}} {
			x := pay(90, 0, 1, 2, 3)
			x.Ins[i].From = from
			expectTx(t, "missing", asked{x, l, tens(10), 0}, 0, fails(api.ErrMissing, i))
			expectTx(t, "missing in a set", asked{x, setOf(t, l.all()), tens(10), 0}, 0, fails(api.ErrMissing, i))
			if i < 3 {
				x.Ins[3].From = at(9)
				expectTx(t, "the first one missing", asked{x, l, tens(10), 0}, 0, fails(api.ErrMissing, i))
			}
		}
	}
	expectTx(t, "no coins", asked{pay(0, 0), some(nil), tens(10), 0}, 0, fails(api.ErrMissing, 0))
}

// P16.1: an In whose coin is not ripe at the height is ErrYoung, around its place.
func TestTxYoung(t *testing.T) {
	for height := 1; height < 9; height++ {
		for stands := range 9 {
			for maturity := range 9 {
				for i := range 3 {
					l := plain(3)
					l[i] = base(coin(i, 100, stands))
					want, fee := fault{}, uint64(50)
					if stands+maturity > height {
						want, fee = fails(api.ErrYoung, i), 0
					}
					expectTx(t, "of a first one", asked{pay(250, 0, 1, 2), l, tens(height), maturity}, fee, want)
					l[i].Base = false
					expectTx(t, "of another one", asked{pay(250, 0, 1, 2), l, tens(height), maturity}, 50, fault{})
				}
			}
		}
	}
}

// P16.1: In by In, each for both errors; then the Keys.
func TestTxInByIn(t *testing.T) {
	const right, missing, young, locked = 0, 1, 2, 3
	for n := range 4 * 4 * 4 {
		kinds := []int{n % 4, n / 4 % 4, n / 16}
		l, x := plain(3), pay(290, 0, 1, 2)
		want, fee := fault{}, uint64(10)
		for _, keys := range []bool{true, false} { // what is met last is set first
			for i, kind := range slices.Backward(kinds) {
				switch {
				case keys && kind == locked:
					x.Ins[i].Key = key(77)
					want = fails(api.ErrKey, i)
				case !keys && kind == missing:
					x.Ins[i].From = at(50)
					want = fails(api.ErrMissing, i)
				case !keys && kind == young:
					l[i] = base(coin(i, 100, 8))
					want = fails(api.ErrYoung, i)
				}
			}
		}
		if want != (fault{}) {
			fee = 0
		}
		expectTx(t, "In by In", asked{x, l, tens(10), 3}, fee, want)
	}
}

// P16.1: value.Fee's errors go up as they are.
func TestTxFeeErrors(t *testing.T) {
	l := some{coin(0, most, 0), coin(1, 1, 0), coin(2, 100, 0), coin(3, 100, 0)}
	big := pay(most, 2)
	big.Outs = append(big.Outs, api.Out{Value: 1})
	wrong := pay(10, 1, 2, 3)
	wrong.Ins[2].Key = key(2)
	round := pay(1<<63, 2)
	round.Outs = append(round.Outs, api.Out{Value: 1 << 63})
	for _, x := range []struct {
		tx   api.Tx
		want fault
	}{
		{wrong, fails(api.ErrKey, 2)},
		{pay(10, 0, 1), fails(api.ErrValue)}, {pay(10, 0, 0), fails(api.ErrValue)},
		{big, fails(api.ErrValue)}, {pay(most+1, 0), fails(api.ErrValue)}, {round, fails(api.ErrValue)},
		{pay(101, 2), fails(api.ErrLess)}, {pay(201, 2, 3), fails(api.ErrLess)}, {pay(most, 2, 3), fails(api.ErrLess)},
	} {
		expectTx(t, "Fee's errors", asked{x.tx, l, tens(3), 0}, 0, x.want)
	}
	expectTx(t, "the greatest fee", asked{pay(0, 0), l, tens(3), 0}, most, fault{})
	expectTx(t, "the greatest amount", asked{pay(most, 0), l, tens(3), 0}, 0, fault{})
	for _, n := range []int{0, 79, 80, 81} {
		long := bytes.Repeat([]byte{5}, n)
		c, x := some{{Value: 100, Lock: spend.Lock(long)}}, pay(90, 0)
		x.Ins[0].Key = long
		if n <= 80 {
			expectTx(t, "a key", asked{x, c, tens(3), 0}, 10, fault{})
		} else {
			expectTx(t, "a key that is too long", asked{x, c, tens(3), 0}, 0, fails(api.ErrKey, 0))
		}
	}
}

// P16.1: a Time that is a height has to be below the height, one that is a time below the last of pasts; Ins that are all Final, or a Time of 0, ask for nothing.
func TestTxFinal(t *testing.T) {
	early := func(what string, is bool, time uint32, pasts []uint32) {
		t.Helper()
		fee, want := uint64(10), fault{}
		if is {
			fee, want = 0, fails(api.ErrEarly)
		}
		for _, n := range []uint32{api.Final - 1, api.Locked} {
			x := timed(with(pay(90, 0), n), time)
			expectTx(t, what, asked{x, plain(2), pasts, 0}, fee, want)
			x = timed(with(pay(190, 0, 1), api.Final, n), time)
			expectTx(t, what, asked{x, plain(2), pasts, 0}, fee, want)
		}
		expectTx(t, "all Final", asked{timed(pay(190, 0, 1), time), plain(2), pasts, 0}, 10, fault{})
	}
	for height := 1; height < 12; height++ {
		for time := range uint32(14) {
			early("a height", time > 0 && int(time) >= height, time, tens(height))
		}
		early("the greatest height", true, api.Split-1, tens(height))
	}
	for _, last := range []uint32{0, api.Split - 1, api.Split, api.Split + 1, api.Split + 500, math.MaxUint32} {
		for _, time := range []uint32{api.Split, api.Split + 1, api.Split + 499, api.Split + 500, api.Split + 501, math.MaxUint32 - 1, math.MaxUint32} {
			early("a time", time >= last, time, []uint32{math.MaxUint32, 0, last})
			early("a time", time >= last, time, []uint32{last})
			early("a time", time >= last, time, []uint32{0, 0, math.MaxUint32, last})
		}
	}
}

// P16.1: a lock by height counts from the coin's Height on.
func TestTxLockedByHeight(t *testing.T) {
	for height := 1; height < 9; height++ {
		for stands := -1; stands < 12; stands++ {
			for span := range uint32(12) {
				fee, want := uint64(10), fault{}
				if stands+int(span) > height {
					fee, want = 0, fails(api.ErrEarly)
				}
				l := some{coin(0, 100, 0), coin(1, 100, stands), coin(2, 100, 0)}
				for _, more := range []uint32{0, 1 << 16, 1<<31 - 1 - 1<<22 - 0xffff} {
					expectTx(t, "one In", asked{with(pay(90, 1), span|more), l, tens(height), 0}, fee, want)
					expectTx(t, "among others", asked{with(pay(290, 0, 1, 2), 1, span|more), l, tens(height), 0}, fee, want)
				}
				expectTx(t, "no lock", asked{with(pay(90, 1), span|api.Locked), l, tens(height), 0}, 10, fault{})
				low := with(pay(90, 1), span)
				low.Version = span % 2
				expectTx(t, "a low Version", asked{low, l, tens(height), 0}, 10, fault{})
			}
		}
	}
	expectTx(t, "all Final, and locked", asked{with(pay(190, 0, 1), 8, 9), plain(2), tens(9), 0}, 0, fails(api.ErrEarly))
	expectTx(t, "all met", asked{with(pay(190, 0, 1), 9, 8), plain(2), tens(9), 0}, 10, fault{})
}

// belowOf is the place in pasts of the block below a coin of this height.
func belowOf(stands, height int) int {
	switch {
	case stands <= 1:
		return 0
	case stands >= height:
		return height - 1
	}
	return stands - 1
}

// P16.1: a lock by time counts from the past of the block below the coin's on: of heights up to 1 that of 0, of the height itself or above the last.
func TestTxLockedByTime(t *testing.T) {
	heights := []int{math.MinInt, math.MinInt + 1, -1 << 32, -7, -1, 0, 1, 2, 3, 4, 5, 6, 7, 8, 9, 100, 1<<16 + 1, 1 << 32, 1<<32 + 2, math.MaxInt}
	for height := 1; height < 8; height++ {
		for _, stands := range heights {
			for span := range uint32(4) {
				lockedByTime(t, height, stands, span)
			}
		}
	}
	// what is needed may be above all numbers of 32 bits, and is not cut off
	l := some{coin(0, 100, 2)}
	pasts := []uint32{5, math.MaxUint32 - 511, math.MaxUint32}
	expectTx(t, "the greatest past", asked{with(pay(90, 0), api.ByTime|1), l, pasts, 0}, 0, fails(api.ErrEarly))
	pasts[1]--
	expectTx(t, "the greatest past", asked{with(pay(90, 0), api.ByTime|1), l, pasts, 0}, 10, fault{})
	expectTx(t, "the greatest span", asked{with(pay(90, 0), api.ByTime|0xffff), l, pasts, 0}, 0, fails(api.ErrEarly))
}

// lockedByTime asks for a lock by time on a coin that stands at a height, where the last past is just late enough, and a second too early. The other pasts are far too early, or far too late, so that none can stand for the right one.
func lockedByTime(t *testing.T, height, stands int, span uint32) {
	t.Helper()
	l := some{coin(0, 100, 0), coin(1, 100, stands)}
	for _, others := range []uint32{0, 100000} {
		for _, less := range []uint32{0, 1} {
			pasts := slices.Repeat([]uint32{others}, height)
			pasts[height-1] = 50000 + 512*span - less
			early := span > 0 // where the last past is the coin's own
			if below := belowOf(stands, height); below < height-1 {
				pasts[below] = 50000
				early = less == 1
			}
			fee, want := uint64(10), fault{}
			if early {
				fee, want = 0, fails(api.ErrEarly)
			}
			expectTx(t, "by time", asked{with(pay(90, 1), api.ByTime|span), l, pasts, 0}, fee, want)
			expectTx(t, "by time, of two", asked{with(pay(190, 0, 1), api.Final, api.ByTime|span), l, pasts, 0}, fee, want)
			low := with(pay(90, 1), api.ByTime|span)
			low.Version = 1
			expectTx(t, "a low Version", asked{low, l, pasts, 0}, 10, fault{})
			expectTx(t, "no lock", asked{with(pay(90, 1), api.Locked|api.ByTime|span), l, pasts, 0}, 10, fault{})
		}
	}
}

// P16.1: each coin has its own height and past: a lock is not held against another coin's.
func TestTxLocksOfTheirOwn(t *testing.T) {
	pasts := []uint32{1000, 2000, 3000, 4000, 5000, 6000}
	l := plain(6)
	for first := range 6 {
		for second := range 6 {
			for _, spans := range [][]uint32{{api.ByTime | 3, api.ByTime | 7}, {api.ByTime | 7, api.ByTime | 3}, {2, 4}, {4, 2}, {api.ByTime | 5, 3}} {
				x := asked{with(pay(190, first, second), spans...), l, pasts, 0}
				fee, want := modelTx(x)
				expectTx(t, "two locks", x, fee, want)
			}
		}
	}
}

// P16.1: where several hold: shape, In by In, Fee's, and then ErrEarly, by the Time or by a lock.
func TestTxErrorsInOrder(t *testing.T) {
	for bits := range 512 {
		has := func(n uint) bool { return bits>>n&1 == 1 }
		l := some{coin(0, 100, 3), base(coin(1, 100, 3)), coin(2, 100, 3), coin(3, 100, 3)}
		x := asked{with(pay(350, 0, 1, 2, 3), api.Locked, api.Locked, api.Locked, api.Locked), l, tens(10), 7}
		height, want, fee := 10, fault{}, uint64(50)
		for n, put := range []func(){ // what is met last first
			func() { x.tx.Ins[2].Seq, want = 8, fails(api.ErrEarly) },
			func() { x.tx.Time, want = 10, fails(api.ErrEarly) },
			func() { x.tx.Outs[0].Value, want = 401, fails(api.ErrLess) },
			func() { x.tx.Outs, want = append(x.tx.Outs, api.Out{Value: most}), fails(api.ErrValue) },
			func() { x.tx.Ins[0].Key, want = key(9), fails(api.ErrKey, 0) },
			func() { x.tx.Ins[3].From, want = at(9), fails(api.ErrMissing, 3) },
			func() { x.maturity, want = 8, fails(api.ErrYoung, 1) },
			func() { x.tx.Ins[0].From, want = at(8), fails(api.ErrMissing, 0) },
			func() { height, want = 9, fails(api.ErrShape) },
		} {
			if has(uint(n)) {
				put()
				fee = 0
			}
		}
		got, err := conn.Tx(x.tx, x.coins, height, x.pasts, x.maturity)
		if f := faultOf(err); got != fee || f != want {
			t.Errorf("%09b: %d, %v, not %d, %v", bits, got, f, fee, want)
		}
	}
}

// P16.1: nothing else is asked: tx.Check is not, nor whether it is a first one.
func TestTxAsksNothingElse(t *testing.T) {
	expectTx(t, "one coin twice", asked{pay(150, 1, 1), plain(3), tens(5), 0}, 50, fault{})
	null := nullCoin{coin(0, 100, 1)}
	expectTx(t, "a first one", asked{api.Tx{Ins: []api.In{{From: spend.Null(), Key: key(0)}}}, null, tens(5), 0}, 100, fault{})
	expectTx(t, "a first one", asked{first(5, 10), some(nil), tens(5), 0}, 0, fails(api.ErrMissing, 0))
	var many []int
	for range 4 * api.MaxIns {
		many = append(many, 1)
	}
	x := pay(0, many...)
	for range 4 * api.MaxOuts {
		x.Outs = append(x.Outs, api.Out{Value: 1})
	}
	expectTx(t, "many", asked{x, plain(3), tens(5), 0}, 96*4*api.MaxIns+3*4*api.MaxIns, fault{})
}

// nullCoin are Coins of which one is at spend.Null, and no other.
type nullCoin struct{ coin api.Money }

// Get makes a nullCoin Coins.
func (n nullCoin) Get(p api.Point) (api.Money, bool) {
	return n.coin, spend.IsNull(p)
}

// P0.4, P0.2: what is handed in is not changed, and what lies behind pasts neither read nor written.
func TestTxLeavesWhatIsHandedIn(t *testing.T) {
	s := setOf(t, plain(4).all())
	sum := s.Sum()
	for _, x := range []api.Tx{with(pay(250, 1, 2, 3), 7, 7, api.ByTime), pay(101, 1), with(pay(90, 3), 9), pay(90, 1, 9)} {
		was := tx.Clone(x)
		pasts := tens(20)
		conn.Tx(x, s, 10, pasts[:10], 100)
		if !tx.Same(x, was) || !slices.Equal(pasts, tens(20)) || s.Sum() != sum {
			t.Errorf("changed: %v, %v", x, pasts)
		}
	}
}
