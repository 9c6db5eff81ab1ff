package conn_test

import (
	"bytes"
	"math"
	"slices"
	"testing"

	"sargasso/api"
	"sargasso/block"
	"sargasso/conn"
	"sargasso/spend"
	"sargasso/tx"
)

// numbers are rules of this halving and maturity, whose other numbers nobody asks for here.
func numbers(halving, maturity int) api.Rules {
	return api.Rules{Halving: halving, Maturity: maturity}
}

// expectPut asks for Block of what may stand there.
func expectPut(t *testing.T, what string, have []api.Spent, b api.Block, pasts []uint32, r api.Rules, fees uint64, taken ...api.Spent) {
	t.Helper()
	left := slices.Clone(have)
	for _, x := range b.Txs {
		left = append(left, made(x, len(pasts))...)
	}
	var places []api.Point
	for _, c := range taken {
		places = append(places, c.At)
	}
	expectBlock(t, what, done{taken: taken, fees: fees, left: without(left, places...)}, have, b, pasts, r)
}

// expectRefused asks for Block of what may not stand there.
func expectRefused(t *testing.T, what string, have []api.Spent, b api.Block, pasts []uint32, r api.Rules, want fault) {
	t.Helper()
	expectBlock(t, what, done{fault: want, left: have}, have, b, pasts, r)
}

// P16.2: a block of a first transaction alone takes nothing, and leaves a coin more, which is Base; on any height.
func TestBlockOfAFirst(t *testing.T) {
	for _, height := range []int{1, 2, 9, 255, 256, 257, 300, 65535, 65536, 70000, api.MaxHeight} {
		pasts := make([]uint32, height)
		expectPut(t, "a first one", plain(3).all(), of(pasts, first(height, 5)), pasts, numbers(1<<20, 1000), 0)
		for n := range 32 {
			expectRefused(t, "of a height beside", plain(3).all(), of(pasts, first(height^1<<n, 5)), pasts, numbers(1<<20, 1000), fails(api.ErrBase))
		}
	}
	expectPut(t, "on no coins", nil, of(tens(4), first(4, 0)), tens(4), numbers(1, 0), 0)
}

// P16.2: others take their coins, in the order of their Ins, one by one; their Outs are of the height, not Base; the fees are all fees.
func TestBlockOfOthers(t *testing.T) {
	pasts, have := tens(9), plain(9).all()
	a, b, c := pay(150, 5, 2), pay(290, 7, 0, 1), pay(100, 4)
	expectPut(t, "one", have, of(pasts, first(9, 1), a), pasts, numbers(3, 0), 50, have[5], have[2])
	expectPut(t, "three", have, of(pasts, first(9, 1), a, b, c), pasts, numbers(3, 0), 60, have[5], have[2], have[7], have[0], have[1], have[4])
	expectPut(t, "in another order", have, of(pasts, first(9, 1), c, b, a), pasts, numbers(3, 0), 60, have[4], have[7], have[0], have[1], have[5], have[2])
}

// P16.2: as many as there may be, each of which spends what the one ahead made.
func TestBlockOfMany(t *testing.T) {
	pasts, have := tens(9), plain(2).all()
	txs, taken := []api.Tx{first(9, 299)}, []api.Spent{have[1]}
	for n := range uint64(api.MaxTxs - 1) {
		x := pay(100, 1)
		if n > 0 {
			x = spending(pay(100-n/2), txs[n], 0)
			taken = append(taken, made(txs[n], 9)...)
		}
		txs = append(txs, x)
	}
	left := slices.Concat(have[:1], made(txs[0], 9), made(txs[api.MaxTxs-1], 9))
	expectBlock(t, "many", done{taken: taken, fees: 99, left: left}, have, of(pasts, txs...), pasts, numbers(9, 0))
	txs[api.MaxTxs-1].Outs[0].Value = 3
	expectRefused(t, "many, the last one", have, of(pasts, txs...), pasts, numbers(9, 0), fails(api.ErrLess, api.MaxTxs-1))
}

// P16.2: what the ones ahead made can be spent, the first one's, too, if it is ripe; it is of the height.
func TestBlockSpendsItsOwn(t *testing.T) {
	pasts, have := tens(9), plain(9).all()
	head := first(9, 30)
	a := pay(150, 1, 2)
	b := spending(pay(190, 3), a, 0)
	c := spending(spending(pay(200), b, 0), head, 0)
	of9 := func(x api.Tx) api.Spent { return made(x, 9)[0] }
	expectPut(t, "of one ahead", have, of(pasts, head, a, b), pasts, numbers(2, 1000), 110, have[1], have[2], have[3], of9(a))
	expectPut(t, "of all ahead", have, of(pasts, head, a, b, c), pasts, numbers(2, 0), 130, have[1], have[2], have[3], of9(a), of9(b), of9(head))
	expectRefused(t, "of a first one that is too young", have, of(pasts, head, a, b, c), pasts, numbers(2, 1), fails(api.ErrYoung, 3, 1))
	expectRefused(t, "of one behind", have, of(pasts, head, b, a), pasts, numbers(2, 0), fails(api.ErrMissing, 1, 1))
	expectRefused(t, "of one behind", have, of(pasts, head, a, c, b), pasts, numbers(2, 0), fails(api.ErrMissing, 2, 0))
	expectRefused(t, "past the last Out", have, of(pasts, head, a, spending(pay(5), a, 1)), pasts, numbers(2, 0), fails(api.ErrMissing, 2, 0))
	expectRefused(t, "of itself taken out", have, of(pasts, head, b), pasts, numbers(2, 0), fails(api.ErrMissing, 1, 1))
}

// P16.2: each Out of the ones ahead has its own place, Value and Lock.
func TestBlockSpendsEachOut(t *testing.T) {
	pasts, have := tens(9), plain(9).all()
	for n := range 4 {
		head, a := first(9, 0), pay(10, 1)
		head.Outs, a.Outs = nil, nil
		for i := range 4 {
			lock := spend.Lock(key(700 + i))
			head.Outs = append(head.Outs, api.Out{Value: uint64(5 + i), Lock: lock})
			a.Outs = append(a.Outs, api.Out{Value: uint64(20 + i), Lock: lock})
		}
		x := spending(spending(pay(2), head, n), a, n)
		x.Ins[0].Key, x.Ins[1].Key = key(700+n), key(700+n)
		fees := uint64(100 - 86 + 25 + 2*n - 2)
		expectPut(t, "an Out", have, of(pasts, head, a, x), pasts, numbers(9, 0), fees, have[1], made(head, 9)[n], made(a, 9)[n])
		x.Ins[1].Key = key(700 + n + 1)
		expectRefused(t, "another Out's key", have, of(pasts, head, a, x), pasts, numbers(9, 0), fails(api.ErrKey, 2, 1))
	}
}

// P16.2: locks on what the ones ahead made count from the height on, and from the last of pasts.
func TestBlockLocksOnItsOwn(t *testing.T) {
	pasts, have := []uint32{5, 5, 5, 5, 5, 900}, plain(6).all()
	a := pay(50, 1)
	for _, x := range []struct {
		seq   uint32
		early bool
	}{{0, false}, {1, true}, {2, true}, {api.ByTime, false}, {api.ByTime | 1, true}, {api.ByTime | 2, true}, {api.Locked | 5, false}} {
		b := spending(api.Tx{Version: 2, Outs: []api.Out{{Value: 50}}}, a, 0)
		b.Ins[0].Seq = x.seq
		whole := of(pasts, first(6, 0), a, b)
		if x.early {
			expectRefused(t, "a lock", have, whole, pasts, numbers(9, 0), fails(api.ErrEarly, 2))
		} else {
			expectPut(t, "a lock", have, whole, pasts, numbers(9, 0), 50, have[1], made(a, 6)[0])
		}
	}
}

// P16.2: Tx's errors go up around the transaction's place.
func TestBlockTxErrors(t *testing.T) {
	pasts := tens(9)
	have := append(plain(6), base(coin(6, 100, 7)))
	wrong := pay(90, 4, 5)
	wrong.Ins[1].Key = key(4)
	for _, x := range []struct {
		tx   api.Tx
		want fault
	}{
		{pay(90, 4, 50), fails(api.ErrMissing, 1)}, {pay(90, 6), fails(api.ErrYoung, 0)}, {wrong, fails(api.ErrKey, 1)}, {pay(101, 4), fails(api.ErrLess)},
		{with(pay(90, 4), 6), fails(api.ErrEarly)}, {timed(with(pay(90, 4), 0), 9), fails(api.ErrEarly)},
	} {
		for place := 1; place < 4; place++ {
			txs := []api.Tx{first(9, 0), pay(90, 1), pay(90, 2), pay(90, 3)}
			txs[place] = x.tx
			want := x.want
			want.places = fails(nil, place).places + want.places
			expectRefused(t, "Tx's", have.all(), of(pasts, txs...), pasts, numbers(9, 3), want)
			if place < 3 {
				txs[3] = pay(101, 51)
				expectRefused(t, "the first one that is met", have.all(), of(pasts, txs...), pasts, numbers(9, 3), want)
			}
		}
	}
	expectPut(t, "ripe", have.all(), of(pasts, first(9, 0), pay(90, 6)), pasts, numbers(9, 2), 10, have.all()[6])
}

// P16.2: block.Check's errors go up, ahead of those of the place.
func TestBlockCheckErrors(t *testing.T) {
	pasts, have := tens(9), plain(9).all()
	good := of(pasts, first(9, 1), pay(90, 1), pay(90, 2))
	change := func(put func(b *api.Block)) api.Block {
		b := block.Clone(good)
		put(&b)
		return b
	}
	txs := func(l ...api.Tx) api.Block { return of(pasts, l...) }
	long := []api.Tx{first(9, 1)}
	for n := range api.MaxTxs {
		x := pay(90, 1000+n)
		x.Ins[0].Key = bytes.Repeat(key(7), 2)
		long = append(long, x)
	}
	for _, x := range []struct {
		b    api.Block
		want fault
	}{
		{api.Block{}, fails(api.ErrRange)},
		{change(func(b *api.Block) { b.Head.Work = 0 }), fails(api.ErrRange)}, {change(func(b *api.Block) { b.Head.Work = 1<<24 + 1 }), fails(api.ErrRange)},
		{txs(), fails(api.ErrMany)}, {txs(long...), fails(api.ErrMany)}, {txs(long[:api.MaxTxs]...), fails(api.ErrLong)},
		{txs(first(9, 1), api.Tx{}), fails(api.ErrMany, 1)}, {txs(first(9, most+1)), fails(api.ErrValue, 0)},
		{txs(pay(90, 1)), fails(api.ErrBase, 0)}, {txs(first(9, 1), pay(90, 1), first(9, 2)), fails(api.ErrBase, 2)},
		{txs(first(9, 1), pay(90, 1), pay(80, 1)), fails(api.ErrTwice)}, {txs(first(9, 1), pay(90, 1), pay(90, 1)), fails(api.ErrTwice)},
		{change(func(b *api.Block) { b.Head.Root[31]++ }), fails(api.ErrRoot)}, {change(func(b *api.Block) { b.Txs[2].Time++ }), fails(api.ErrRoot)},
	} {
		expectRefused(t, "Check's", have, x.b, pasts, numbers(9, 0), x.want)
		x.b.Head.Time = 0
		expectRefused(t, "Check's, and a Time", have, x.b, pasts, numbers(9, 0), x.want)
		expectRefused(t, "Check's, and of another height", have, x.b, tens(8), numbers(9, 0), x.want)
	}
	expectPut(t, "the good one", have, good, pasts, numbers(9, 0), 20, have[1], have[2])
	for _, put := range []func(h *api.Head){func(h *api.Head) { h.Version = 0 }, func(h *api.Head) { h.Prev = api.Hash{} }, func(h *api.Head) { h.Nonce = 0 }, func(h *api.Head) { h.Work = 1 << 24 }} {
		expectPut(t, "another header", have, change(func(b *api.Block) { put(&b.Head) }), pasts, numbers(9, 0), 20, have[1], have[2])
	}
}

// P16.2: the Time has to be above the last of pasts, whatever the others are.
func TestBlockTime(t *testing.T) {
	for _, pasts := range [][]uint32{{5}, {0}, {1000, 5}, {5, 1000}, {math.MaxUint32, 0, 77}, {math.MaxUint32 - 1}, {math.MaxUint32}, {1, 1 << 31}, {1<<31 - 1}} {
		last := pasts[len(pasts)-1]
		for _, time := range []uint32{0, 1, 5, 6, 76, 77, 78, 1000, 1001, 1<<31 - 1, 1 << 31, 1<<31 + 1, last - 1, last, last + 1, math.MaxUint32 - 1, math.MaxUint32} {
			b := of(pasts, first(len(pasts), 3))
			b.Head.Time = time
			if time > last {
				expectPut(t, "late enough", nil, b, pasts, numbers(9, 0), 0)
			} else {
				expectRefused(t, "too early", nil, b, pasts, numbers(9, 0), fails(api.ErrTime))
			}
		}
	}
}

// P16.2: the first one's Key begins with the height, its lowest byte first; what stands behind is free.
func TestBlockBase(t *testing.T) {
	pasts := make([]uint32, 0x0304)
	for _, x := range []struct {
		key   []byte
		right bool
	}{
		{[]byte{4, 3, 0, 0}, true}, {[]byte{4, 3, 0, 0, 9}, true}, {append([]byte{4, 3, 0, 0}, bytes.Repeat([]byte{7}, 76)...), true},
		{[]byte{3, 4, 0, 0}, false}, {[]byte{0, 0, 3, 4}, false}, {[]byte{0, 0, 4, 3}, false}, {[]byte{4, 3, 0, 1}, false}, {[]byte{4, 3, 1, 0}, false}, {[]byte{4, 2, 0, 0}, false}, {[]byte{5, 3, 0, 0}, false},
		{[]byte{0, 4, 3, 0, 0}, false}, {[]byte{0, 0, 0, 0, 4, 3, 0, 0}, false}, {[]byte{253, 4, 3, 0}, false},
	} {
		head := first(0, 3)
		head.Ins[0].Key = x.key
		if b := of(pasts, head); x.right {
			expectPut(t, "the height", nil, b, pasts, numbers(999, 0), 0)
		} else {
			expectRefused(t, "no height", nil, b, pasts, numbers(999, 0), fails(api.ErrBase))
		}
	}
	short := first(9, 3)
	short.Ins[0].Key = short.Ins[0].Key[:3]
	expectRefused(t, "too short", nil, of(tens(9), short), tens(9), numbers(9, 0), fails(api.ErrBase, 0))
}

// P16.2: all fees up to one's are MaxMoney at most, or it is ErrValue, around its place.
func TestBlockFeesOfGreatAmounts(t *testing.T) {
	pasts := tens(5)
	have := some{coin(0, most, 0), coin(1, most, 0), coin(2, most-5, 0), coin(3, 5, 0), coin(4, 6, 0), coin(5, 1, 0)}.all()
	for _, x := range []struct {
		fees []int // the coins that go into fees, one transaction each
		at   int
	}{
		{[]int{0}, 0}, {[]int{2, 3}, 0}, {[]int{3, 2}, 0}, {[]int{3, 4, 5}, 0},
		{[]int{0, 1}, 2}, {[]int{0, 5}, 2}, {[]int{5, 0}, 2}, {[]int{2, 4}, 2}, {[]int{2, 3, 5}, 3}, {[]int{2, 5, 4}, 3}, {[]int{0, 1, 2}, 2}, {[]int{3, 0, 4}, 2},
	} {
		txs, taken, fees := []api.Tx{first(5, 0)}, []api.Spent(nil), uint64(0)
		for _, n := range x.fees {
			txs, taken = append(txs, pay(0, n)), append(taken, have[n])
			fees += have[n].Coin.Value
		}
		if x.at == 0 {
			expectPut(t, "great fees", have, of(pasts, txs...), pasts, numbers(9, 0), fees, taken...)
			continue
		}
		expectRefused(t, "too great fees", have, of(pasts, txs...), pasts, numbers(9, 0), fails(api.ErrValue, x.at))
		txs[0].Outs[0].Value = most
		expectRefused(t, "too great fees, and a claim", have, of(pasts, txs...), pasts, numbers(9, 0), fails(api.ErrValue, x.at))
		expectRefused(t, "and one that is missing", have, of(pasts, append(txs, pay(5, 50))...), pasts, numbers(9, 0), fails(api.ErrValue, x.at))
		txs[x.at-1] = pay(5, 50)
		expectRefused(t, "one ahead that is missing", have, of(pasts, txs...), pasts, numbers(9, 0), fails(api.ErrMissing, x.at-1, 0))
	}
	free := []api.Tx{first(5, 0), pay(most, 0), pay(most, 1), pay(0, 5)}
	expectPut(t, "great amounts, small fees", have, of(pasts, free...), pasts, numbers(9, 0), 1, have[0], have[1], have[5])
}

// P16.2: the first one's Outs are at most the reward of the height, and the fees; less is right.
func TestBlockReward(t *testing.T) {
	have := plain(9).all()
	for height := 1; height < 12; height++ {
		for _, halving := range []int{1, 2, 3, 5, 20, 0, -1} {
			pasts, reward := tens(height), modelReward(height, halving)
			for _, claims := range [][]uint64{{reward}, {reward / 2, reward - reward/2}, {0, 0, reward}, {reward - min(1, reward)}, {0}, {0, reward / 3}} {
				expectClaim(t, true, have, pasts, halving, claims)
			}
			for _, claims := range [][]uint64{{reward + 1}, {reward, 1}, {1, reward}, {reward, reward + 1}, {most - 7}, {0, most - 7, 0}, {most - 7 - reward, reward}} {
				expectClaim(t, false, have, pasts, halving, claims)
			}
		}
	}
	big := some{coin(0, most, 0)}.all()
	pasts := tens(3)
	expectPut(t, "all that there may be", big, of(pasts, first(3, most), pay(0, 0)), pasts, numbers(9, 0), most, big[0])
}

// expectClaim asks for blocks without fees, and with some, whose first one claims these amounts, more by the fees.
func expectClaim(t *testing.T, right bool, have []api.Spent, pasts []uint32, halving int, claims []uint64) {
	t.Helper()
	for _, fees := range []uint64{0, 7} {
		head := first(len(pasts), 0)
		head.Outs = nil
		for i, n := range claims {
			if i == 0 {
				n += fees
			}
			head.Outs = append(head.Outs, api.Out{Value: n, Lock: spend.Lock(key(600))})
		}
		b := of(pasts, head, pay(100, 1), pay(100-fees, 2))
		if right {
			expectPut(t, "a claim", have, b, pasts, numbers(halving, 0), fees, have[1], have[2])
		} else {
			expectRefused(t, "a claim", have, b, pasts, numbers(halving, 0), fails(api.ErrReward))
		}
	}
}

// P16.2: undo.Apply's errors go up: an Out whose place is taken is ErrTwice, around its transaction's place, behind all else.
func TestBlockApplyErrors(t *testing.T) {
	pasts, have := tens(5), plain(5).all()
	txs := []api.Tx{first(5, 3), pay(90, 1), pay(80, 2, 3)}
	b := of(pasts, txs...)
	for i, x := range txs {
		there := append(slices.Clone(have), api.Spent{At: out(x, 0), Coin: api.Money{Value: 1, Base: true}})
		expectRefused(t, "an Out that is there", there, b, pasts, numbers(9, 0), fails(api.ErrTwice, i))
		for later := range i {
			both := append(slices.Clone(there), api.Spent{At: out(txs[later], 0)})
			expectRefused(t, "two that are there", both, b, pasts, numbers(9, 0), fails(api.ErrTwice, later))
		}
		much := of(pasts, first(5, 5000000131), txs[1], txs[2])
		if i > 0 {
			expectRefused(t, "and a claim", there, much, pasts, numbers(9, 0), fails(api.ErrReward))
		}
	}
	beside := append(slices.Clone(have), api.Spent{At: out(txs[1], 1)})
	expectPut(t, "a place beside", beside, b, pasts, numbers(9, 0), 130, have[1], have[2], have[3])
}

// P16.2: a coin that stands where one of the block makes one may be spent ahead of that; behind it the set's is told, and it is ErrTwice at the end.
func TestBlockOfAPlaceThatIsThere(t *testing.T) {
	pasts := tens(5)
	x := pay(90, 1)
	there := api.Spent{At: out(x, 0), Coin: coin(4, 70, 2)}
	have := append(plain(3).all(), there)
	y := api.Tx{Version: 2, Ins: []api.In{{From: there.At, Key: key(4), Seq: api.Final}}, Outs: []api.Out{{Value: 60}}}
	left := slices.Concat(without(plain(3).all(), at(1)), made(x, 5), made(y, 5))
	b := of(pasts, first(5, 3), y, x)
	left = append(left, made(b.Txs[0], 5)...)
	expectBlock(t, "spent ahead", done{taken: []api.Spent{there, have[1]}, fees: 20, left: left}, have, b, pasts, numbers(9, 0))
	expectRefused(t, "spent behind", have, of(pasts, first(5, 3), x, y), pasts, numbers(9, 0), fails(api.ErrTwice, 1))
	y.Ins[0].Key = key(500)
	expectRefused(t, "spent behind by the other key", have, of(pasts, first(5, 3), x, y), pasts, numbers(9, 0), fails(api.ErrKey, 2, 0))
}

// P16.2: pasts that are not as many as height, or none, are ErrShape, ahead of all.
func TestBlockShape(t *testing.T) {
	have := plain(4).all()
	for _, height := range []int{math.MinInt, -1 << 32, -1, 0, 1, 2, 3, 4, 5, 1 << 32, 1<<32 + 3, math.MaxInt} {
		for n := range 6 {
			if height == n && n > 0 {
				continue
			}
			for _, b := range []api.Block{{}, of(tens(3), first(height, 1)), of(tens(3), first(n, 1)), block.Start()} {
				s := setOf(t, have)
				taken, fees, err := conn.Block(s, b, height, tens(9)[:n], numbers(9, 0))
				if taken != nil || fees != 0 || err != api.ErrShape || !sameSet(t, s, have) {
					t.Errorf("height %d, %d pasts: %v, %d, %v", height, n, taken, fees, err)
				}
			}
		}
	}
}

// P16.2: where several hold: shape, Check, Time, Base, then transaction by transaction, reward, and undo's.
func TestBlockErrorsInOrder(t *testing.T) {
	for bits := range 512 {
		pasts, height := tens(6), 6
		have := some{coin(0, most, 0), coin(1, 9, 0), coin(2, 100, 0), coin(3, 100, 0)}.all()
		txs := []api.Tx{first(6, 20), pay(most, 0), pay(4, 1), pay(90, 2), pay(95, 3)}
		time, root, want := pasts[5]+1, byte(0), fault{}
		for n, put := range []func(){ // what is met last first
			func() { have, want = append(have, api.Spent{At: out(txs[3], 0)}), fails(api.ErrTwice, 3) },
			func() { txs[0].Outs[0].Value, want = 5000000021, fails(api.ErrReward) },
			func() { txs[4].Ins[0].Key, want = nil, fails(api.ErrKey, 4, 0) },
			func() { txs[1].Outs[0].Value, want = 0, fails(api.ErrValue, 2) },
			func() { txs[1].Ins[0].From, want = at(20), fails(api.ErrMissing, 1, 0) },
			func() { txs[0].Ins[0].Key[0], want = 7, fails(api.ErrBase) },
			func() { time, want = pasts[5], fails(api.ErrTime) },
			func() { root, want = 1, fails(api.ErrRoot) },
			func() { height, want = 7, fails(api.ErrShape) },
		} {
			if bits>>n&1 == 1 {
				put()
			}
		}
		b := of(pasts, txs...)
		b.Head.Time = time
		b.Head.Root[0] ^= root
		s := setOf(t, have)
		taken, fees, err := conn.Block(s, b, height, pasts, numbers(9, 0))
		f := faultOf(err)
		if f != want || err != nil && (taken != nil || fees != 0 || !sameSet(t, s, have)) || err == nil && (len(taken) != 4 || fees != 20) {
			t.Errorf("%09b: %v, %d, %v, not %v", bits, taken, fees, f, want)
		}
	}
}

// P0.4: what is handed in is not kept: neither the set's coins nor what can be told change with it.
func TestBlockKeepsNothing(t *testing.T) {
	pasts, have := tens(9), plain(3).all()
	whole := make([]api.Tx, 3, 4)
	whole[0], whole[1], whole[2] = first(9, 5), pay(150, 1, 2), pay(7, 40)
	b := of(pasts, whole[:2]...)
	b.Txs = whole[:2]
	s := setOf(t, have)
	taken, _, err := conn.Block(s, b, 9, append(slices.Clone(pasts), 5)[:9], numbers(9, 0))
	if err != nil {
		t.Fatal(err)
	}
	if !tx.Same(whole[2], pay(7, 40)) {
		t.Error("behind the length of Txs something was changed")
	}
	sum, copied := s.Sum(), block.Clone(b)
	clear(b.Txs[1].Outs)
	clear(b.Txs[0].Ins[0].Key)
	clear(b.Txs[1].Ins)
	clear(b.Txs)
	if s.Sum() != sum {
		t.Error("the coins change with the block")
	}
	expectBack(t, "by a copy", s, copied, taken, have)
}
