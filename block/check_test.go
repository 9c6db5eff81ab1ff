package block_test

import (
	"math"
	"strconv"
	"testing"

	"sargasso/api"
	"sargasso/block"
)

// expectCheck asks Check of b, twice, and that b is as it was.
func expectCheck(t *testing.T, what string, b api.Block, want error, place int) {
	t.Helper()
	was := copied(b)
	for range 2 {
		expectError(t, what, block.Check(b), want, place)
	}
	if !equal(b, was) {
		t.Errorf("%s: Check changed it", what)
	}
}

// P7.1: a Work of 1 to 2^24 is taken; another one is ErrRange, whatever else is wrong.
func TestCheckHead(t *testing.T) {
	for _, x := range []struct {
		work uint32
		err  error
	}{
		{0, api.ErrRange}, {1, nil}, {2, nil}, {1<<24 - 1, nil}, {1 << 24, nil}, {1<<24 + 1, api.ErrRange}, {math.MaxUint32, api.ErrRange},
	} {
		b := counted(3)
		b.Head.Work = x.work
		expectCheck(t, "a Work", b, x.err, none)
	}
	expectCheck(t, "the zero value", api.Block{}, api.ErrRange, none)
}

// P7.1: 1 to MaxTxs transactions are taken; none, or more, are ErrMany.
func TestCheckCounts(t *testing.T) {
	for many := range 300 {
		var want error
		if many == 0 || many > api.MaxTxs {
			want = api.ErrMany
		}
		expectCheck(t, strconv.Itoa(many)+" transactions", counted(many), want, none)
	}
	expectCheck(t, "the empty list", rooted(headed([]api.Tx{}...)), api.ErrMany, none)
	expectCheck(t, "very many", rooted(headed(make([]api.Tx, 1<<16)...)), api.ErrMany, none)
}

// sized is a block of so many bytes, a first transaction and others of each of which none is too long.
func sized(t *testing.T, size int) api.Block {
	t.Helper()
	b := headed(based(4))
	for n := 1; ; n++ {
		left := size - len(written(b))
		if left < 3000 {
			b.Txs = append(b.Txs, fitting(n, left))
			break
		}
		b.Txs = append(b.Txs, paying(n, 40, 20, 1))
	}
	if n := len(written(b)); n != size {
		t.Fatalf("%d bytes, not %d", n, size)
	}
	return rooted(b)
}

// fitting is a transaction of so many bytes, 200 to 3,000.
func fitting(n, size int) api.Tx {
	empty := len(writtenTx(paying(n, 1, 0, 1)))
	more := len(writtenTx(paying(n, 2, 0, 1))) - empty
	ins := 1 + (size-empty)/(more+50)
	t := paying(n, ins, 0, 1)
	for i := range t.Ins {
		t.Ins[i].Key = someKey(min(api.MaxKey, size-len(writtenTx(t))))
	}
	return t
}

// P7.1: MaxBlock bytes are taken; one more is ErrLong.
func TestCheckSize(t *testing.T) {
	expectCheck(t, "MaxBlock - 1 bytes", sized(t, api.MaxBlock-1), nil, none)
	expectCheck(t, "MaxBlock bytes", sized(t, api.MaxBlock), nil, none)
	expectCheck(t, "MaxBlock + 1 bytes", sized(t, api.MaxBlock+1), api.ErrLong, none)
	expectCheck(t, "MaxBlock + 2 bytes", sized(t, api.MaxBlock+2), api.ErrLong, none)
	expectCheck(t, "30,000 bytes", sized(t, 30000), api.ErrLong, none)
	expectCheck(t, "a Key of 20,000 bytes", rooted(headed(based(4), paying(1, 1, 20000, 1))), api.ErrLong, none)
}

// wrongTxs are changes that make a transaction of more than one In wrong by itself, and tx.Check's error for it.
func wrongTxs() map[error]func(t *api.Tx) {
	return map[error]func(t *api.Tx){
		api.ErrMany:  func(t *api.Tx) { t.Outs = nil },
		api.ErrLong:  func(t *api.Tx) { t.Ins[0].Key = someKey(api.MaxTx) },
		api.ErrKey:   func(t *api.Tx) { t.Ins[0].Key = someKey(api.MaxKey + 1) },
		api.ErrValue: func(t *api.Tx) { t.Outs[0].Value = api.MaxMoney + 1 },
		api.ErrTwice: func(t *api.Tx) { t.Ins[1].From = t.Ins[0].From },
		api.ErrBase:  func(t *api.Tx) { t.Ins[1].From = api.Point{N: math.MaxUint32} },
	}
}

// P7.1: a transaction that is wrong by itself is told, around its place, wherever it stands; of several the one that stands first.
func TestCheckEach(t *testing.T) {
	const many = 5
	whole := headed(based(4))
	for n := 1; n < many; n++ {
		whole.Txs = append(whole.Txs, paying(n, 3, 2, 2))
	}
	expectCheck(t, "nothing wrong", rooted(whole), nil, none)
	for err, wrong := range wrongTxs() {
		for at := 1; at < many; at++ {
			b := changed(whole, func(b *api.Block) { wrong(&b.Txs[at]) })
			expectCheck(t, "one wrong", rooted(b), err, at)
			for behind := at + 1; behind < many; behind++ {
				for _, other := range wrongTxs() {
					two := changed(b, func(b *api.Block) { other(&b.Txs[behind]) })
					expectCheck(t, "two wrong", rooted(two), err, at)
				}
			}
		}
	}
}

// P7.1: of the first transaction, too, tx.Check's error is told, around place 0.
func TestCheckFirstByItself(t *testing.T) {
	for _, x := range []struct {
		what  string
		first api.Tx
		err   error
	}{
		{"a Key of three bytes", based(3), api.ErrBase},
		{"a Key of four bytes", based(4), nil},
		{"a Key of MaxKey bytes", based(api.MaxKey), nil},
		{"a Key of MaxKey + 1 bytes", based(api.MaxKey + 1), api.ErrKey},
		{"the zero value", api.Tx{}, api.ErrMany},
		{"no Outs", api.Tx{Ins: based(4).Ins}, api.ErrMany},
	} {
		place := 0
		if x.err == nil {
			place = none
		}
		expectCheck(t, x.what+", alone", rooted(headed(x.first)), x.err, place)
		expectCheck(t, x.what, rooted(headed(x.first, small(1))), x.err, place)
	}
}

// P7.1: the first transaction has to make new coins, and no other one may: ErrBase, around the place of the first that is so.
func TestCheckBases(t *testing.T) {
	expectCheck(t, "one that makes none", rooted(headed(small(1))), api.ErrBase, 0)
	const many = 4
	for which := range 1 << many {
		b := headed()
		place := none
		for at := range many {
			base := which>>at&1 == 1
			if base {
				b.Txs = append(b.Txs, based(4+at))
			} else {
				b.Txs = append(b.Txs, small(at))
			}
			if base != (at == 0) && place == none {
				place = at
			}
		}
		var want error
		if place != none {
			want = api.ErrBase
		}
		expectCheck(t, "bases "+strconv.FormatInt(int64(which), 2), rooted(b), want, place)
	}
}

// P7.1: the first transaction once more is ErrBase ahead of ErrTwice.
func TestCheckFirstTwice(t *testing.T) {
	expectCheck(t, "the first twice", rooted(headed(based(4), based(4))), api.ErrBase, 1)
	expectCheck(t, "the first at the end too", rooted(headed(based(4), small(1), small(2), based(4))), api.ErrBase, 3)
}

// P7.1: a place where a transaction is right by itself, but wrong there, is told behind one that is wrong by itself.
func TestCheckEachAheadOfBases(t *testing.T) {
	noOuts := paying(2, 1, 1, 0)
	expectCheck(t, "no first, no Outs in the third", rooted(headed(small(3), small(1), noOuts)), api.ErrMany, 2)
	expectCheck(t, "two firsts, no Outs in the third", rooted(headed(based(4), based(5), noOuts)), api.ErrMany, 2)
}

// P7.1: one transaction twice is ErrTwice, around no place, wherever the two stand.
func TestCheckOneTwice(t *testing.T) {
	const many = 6
	for first := 1; first < many; first++ {
		for second := first + 1; second < many; second++ {
			b := counted(many)
			b.Txs[second] = copiedTx(b.Txs[first])
			expectCheck(t, "one twice", rooted(b), api.ErrTwice, none)
		}
	}
}

// P7.1: two transactions that spend one coin are ErrTwice, around no place, whichever In has it; unlike coins of one transaction are taken.
func TestCheckOneCoinTwice(t *testing.T) {
	const many, ins = 4, 3
	whole := headed(based(4))
	for n := 1; n < many; n++ {
		whole.Txs = append(whole.Txs, paying(n, ins, 2, 1))
	}
	for first := 1; first < many; first++ {
		for second := first + 1; second < many; second++ {
			for at := range ins * ins {
				b := copied(whole)
				from := &b.Txs[second].Ins[at%ins].From
				*from = b.Txs[first].Ins[at/ins].From
				expectCheck(t, "one coin twice", rooted(b), api.ErrTwice, none)
				from.N ^= 1 << 31
				expectCheck(t, "another N", rooted(b), nil, none)
				from.N ^= 1 << 31
				from.Tx[31] ^= 1 << 7
				expectCheck(t, "another Tx", rooted(b), nil, none)
			}
		}
	}
}

// P7.1: what is alike but for its coins is taken; a coin that the block itself makes may be spent in it, whatever the order.
func TestCheckNotTwice(t *testing.T) {
	alike := counted(4)
	for n := 2; n < 4; n++ {
		alike.Txs[n] = copiedTx(alike.Txs[1])
		alike.Txs[n].Ins[0].From.N += uint32(n)
	}
	expectCheck(t, "alike but for their coins", rooted(alike), nil, none)
	spending := small(2)
	spending.Ins[0].From = api.Point{Tx: twice(writtenTx(small(1))), N: 0}
	expectCheck(t, "a coin of the one ahead", rooted(headed(based(4), small(1), spending)), nil, none)
	expectCheck(t, "a coin of the one behind", rooted(headed(based(4), spending, small(1))), nil, none)
}

// P7.1: a Root with any bit turned, or of other transactions, is ErrRoot.
func TestCheckRoot(t *testing.T) {
	for _, many := range []int{1, 2, 3, 7} {
		b := counted(many)
		for bit := range 256 {
			turned := b
			turned.Head.Root[bit/8] ^= 1 << (bit % 8)
			expectCheck(t, "a Root turned", turned, api.ErrRoot, none)
		}
	}
	b := counted(4)
	zero := b
	zero.Head.Root = api.Hash{}
	expectCheck(t, "a Root of 0", zero, api.ErrRoot, none)
	order := changed(b, func(b *api.Block) { b.Txs[1], b.Txs[2] = b.Txs[2], b.Txs[1] })
	expectCheck(t, "in another order", order, api.ErrRoot, none)
	less := changed(b, func(b *api.Block) { b.Txs = b.Txs[:3] })
	expectCheck(t, "one less", less, api.ErrRoot, none)
	other := changed(b, func(b *api.Block) { b.Txs[3].Outs[0].Value++ })
	expectCheck(t, "another value", other, api.ErrRoot, none)
}

// P7.1: the last one of an odd row once more has the same Root, and is ErrTwice all the same.
func TestCheckTwiceUnderOneRoot(t *testing.T) {
	b := counted(3)
	again := changed(b, func(b *api.Block) { b.Txs = append(b.Txs, b.Txs[2]) })
	if rootOf(again.Txs) != b.Head.Root {
		t.Fatal("another root")
	}
	expectCheck(t, "the last one twice", again, api.ErrTwice, none)
}

// fault is a change that makes a block wrong, the error for it, and its place.
type fault struct {
	err   error
	place int
	make  func(b *api.Block)
}

// faults are all of Check's, in its order; each can be made beside each other one.
func faults() []fault {
	return []fault{
		{api.ErrRange, none, func(b *api.Block) { b.Head.Work = 0 }},
		{api.ErrMany, none, func(b *api.Block) {
			for n := len(b.Txs); n <= api.MaxTxs; n++ {
				b.Txs = append(b.Txs, small(n))
			}
		}},
		{api.ErrLong, none, func(b *api.Block) { b.Txs[4].Ins[0].Key = someKey(api.MaxBlock) }},
		{api.ErrKey, 3, func(b *api.Block) { b.Txs[3].Ins[0].Key = someKey(api.MaxKey + 1) }},
		{api.ErrBase, 2, func(b *api.Block) { b.Txs[2] = based(9) }},
		{api.ErrTwice, none, func(b *api.Block) { b.Txs[5].Ins[0].From = b.Txs[1].Ins[0].From }},
		{api.ErrRoot, none, func(b *api.Block) {}},
	}
}

// P7.1: of all errors that are due the first in the chapter's order is told.
func TestCheckTellsTheFirst(t *testing.T) {
	l := faults()
	for which := range 1 << len(l) {
		b := counted(6)
		var want error
		place := none
		for i := len(l) - 1; i >= 0; i-- {
			if which>>i&1 == 1 {
				l[i].make(&b)
				want, place = l[i].err, l[i].place
			}
		}
		b = rooted(b)
		if which>>(len(l)-1) == 1 {
			b.Head.Root[0] ^= 1
		}
		expectCheck(t, "faults "+strconv.FormatInt(int64(which), 2), b, want, place)
	}
}

// P7.1: no transactions at all are ErrMany whatever the Root is, and ErrRange goes ahead of it.
func TestCheckNoTransactions(t *testing.T) {
	expectCheck(t, "a Root of other ones", headed(), api.ErrMany, none)
	expectCheck(t, "a Root of 0", rooted(headed()), api.ErrMany, none)
	expectCheck(t, "a Work of 0 too", api.Block{Head: api.Head{Root: someHash(1)}}, api.ErrRange, none)
}

// P7.1: Check looks at the block alone: not at its Version, Prev, Time or Nonce, nor at the height and the value that its first transaction tells.
func TestCheckLooksAtNoMore(t *testing.T) {
	for _, n := range []uint32{0, 1, 1 << 31, math.MaxUint32} {
		first := block.First(int(n), api.MaxMoney, api.Hash{}, []byte("xy"))
		first.Version, first.Time, first.Ins[0].Seq = n, n, n
		b := rooted(headed(first, small(1)))
		b.Head.Version, b.Head.Time, b.Head.Nonce = n, n, n
		b.Head.Prev = api.Hash{}
		expectCheck(t, "some numbers", b, nil, none)
		b.Head.Prev = b.Head.Root
		expectCheck(t, "Prev that is Root", b, nil, none)
	}
}
