package block_test

import (
	"bytes"
	"slices"
	"testing"

	"sargasso/api"
	"sargasso/block"
)

// expectRefused asks that x is not read, because of err, around no place, and that nothing is answered.
func expectRefused(t *testing.T, what string, x []byte, err error) {
	t.Helper()
	b, got := block.Read(x)
	expectError(t, "Read of "+what, got, err, none)
	if b.Head != (api.Head{}) || len(b.Txs) > 0 {
		t.Errorf("Read of %s: a header %v and %d transactions beside an error", what, b.Head, len(b.Txs))
	}
}

// P7.1: Read of what Bytes wrote is what was written, and its Bytes are these; Check is not asked.
func TestReadWhatBytesWrote(t *testing.T) {
	for what, b := range readable() {
		x := written(b)
		got, err := block.Read(x)
		if err != nil || !equal(got, b) {
			t.Errorf("Read of %s: %v", what, err)
		}
		if !bytes.Equal(block.Bytes(got), x) || block.Size(got) != len(x) {
			t.Errorf("Bytes of what is read of %s are others", what)
		}
	}
}

// P7.1: bytes that are cut off are ErrEnd, at each place.
func TestReadCutOff(t *testing.T) {
	b := headed(based(7), paying(1, 2, 33, 2), api.Tx{}, paying(2, 1, 0, 3))
	x := written(b)
	for n := range x {
		expectRefused(t, "some, cut off", x[:n], api.ErrEnd)
	}
	for what, b := range readable() {
		x := written(b)
		for n := 0; n < len(x); n += 97 {
			expectRefused(t, what+", cut off", x[:n], api.ErrEnd)
		}
		expectRefused(t, what+", cut off at its last byte", x[:len(x)-1], api.ErrEnd)
	}
	expectRefused(t, "nil", nil, api.ErrEnd)
	expectRefused(t, "a header with no count", writtenHead(someHead()), api.ErrEnd)
}

// P7.1: bytes that are left behind the last transaction are ErrShape.
func TestReadWithBytesLeft(t *testing.T) {
	for what, b := range readable() {
		for _, more := range [][]byte{{0}, {1}, {255}, make([]byte, 10), written(b)} {
			expectRefused(t, what+" with bytes left", append(written(b), more...), api.ErrShape)
		}
	}
}

// P7.1: a count above MaxTxs is ErrMany, whatever is behind it; one that is just MaxTxs is read.
func TestReadTooManyTransactions(t *testing.T) {
	for _, count := range [][]byte{
		{201},
		{252},
		{253, 253, 0},
		{253, 255, 255},
		{254, 0, 0, 1, 0},
		{255, 0, 0, 0, 0, 1, 0, 0, 0},
		{255, 255, 255, 255, 255, 255, 255, 255, 255},
	} {
		x := append(writtenHead(someHead()), count...)
		expectRefused(t, "too many transactions", x, api.ErrMany)
		expectRefused(t, "too many transactions, and bytes of them", append(x, make([]byte, 10000)...), api.ErrMany)
	}
	most := append(writtenHead(someHead()), 200)
	expectRefused(t, "MaxTxs transactions that are not there", most, api.ErrEnd)
	if b, err := block.Read(append(most, make([]byte, 2000)...)); err != nil || len(b.Txs) != api.MaxTxs {
		t.Errorf("MaxTxs transactions: %d, %v", len(b.Txs), err)
	}
	expectRefused(t, "MaxTxs transactions and a byte", append(most, make([]byte, 2001)...), api.ErrShape)
}

// P7.1: a count in more bytes than it needs is ErrShape, also one that is too great; one that is cut off is ErrEnd.
func TestReadCountNotTheFewest(t *testing.T) {
	for _, count := range [][]byte{
		{253, 0, 0},
		{253, 1, 0},
		{253, 200, 0},
		{253, 252, 0},
		{254, 1, 0, 0, 0},
		{254, 255, 255, 0, 0},
		{255, 1, 0, 0, 0, 0, 0, 0, 0},
		{255, 255, 255, 255, 255, 0, 0, 0, 0},
	} {
		x := append(writtenHead(someHead()), count...)
		expectRefused(t, "a count not in the fewest bytes", x, api.ErrShape)
		expectRefused(t, "such a count with bytes behind", append(x, make([]byte, 5000)...), api.ErrShape)
		expectRefused(t, "such a count cut off", x[:len(x)-1], api.ErrEnd)
	}
}

// P7.1: a transaction that is not read is refused by its own error, around no place, wherever it stands.
func TestReadWrongTransactions(t *testing.T) {
	const many = 4
	for at := range many {
		for _, wrong := range []struct {
			what string
			x    []byte
			err  error
		}{
			{"MaxIns and one", writtenTx(paying(1, api.MaxIns+1, 1, 1)), api.ErrMany},
			{"MaxOuts and one", writtenTx(paying(1, 1, 1, api.MaxOuts+1)), api.ErrMany},
			{"a Key of MaxKey and one", writtenTx(paying(1, 2, api.MaxKey+1, 1)), api.ErrMany},
			{"300 Ins", writtenTx(paying(1, 300, 1, 1)), api.ErrMany},
			{"a count of Ins not in the fewest bytes", append([]byte{0, 0, 0, 0, 253, 0, 0}, make([]byte, 50)...), api.ErrShape},
			{"a count of Outs not in the fewest bytes", append([]byte{0, 0, 0, 0, 0, 253, 1, 0}, make([]byte, 50)...), api.ErrShape},
		} {
			x := append(writtenHead(someHead()), many)
			for i := range many {
				if i == at {
					x = append(x, wrong.x...)
				} else {
					x = append(x, writtenTx(small(i))...)
				}
			}
			expectRefused(t, wrong.what, x, wrong.err)
			expectRefused(t, wrong.what+", with bytes left", append(x, 0), wrong.err)
		}
	}
}

// P7.1: the error is the one that is met first in the order of the bytes.
func TestReadTellsTheFirstError(t *testing.T) {
	many, shape := writtenTx(paying(1, api.MaxIns+1, 1, 1)), []byte{0, 0, 0, 0, 253, 0, 0}
	ahead := append(writtenHead(someHead()), 2)
	expectRefused(t, "ErrMany, then ErrShape", slices.Concat(ahead, many, shape), api.ErrMany)
	expectRefused(t, "ErrShape, then ErrMany", slices.Concat(ahead, shape, many), api.ErrShape)
	expectRefused(t, "ErrMany, then nothing", slices.Concat(ahead, many[:5]), api.ErrMany)
	expectRefused(t, "ErrMany in a second one, then nothing", slices.Concat(ahead, writtenTx(small(1)), many[:5]), api.ErrMany)
	expectRefused(t, "no second one", slices.Concat(ahead, writtenTx(small(1))), api.ErrEnd)
	expectRefused(t, "a second one cut off ahead of its count", slices.Concat(ahead, writtenTx(small(1)), many[:4]), api.ErrEnd)
	expectRefused(t, "too many transactions, the first one wrong", slices.Concat(writtenHead(someHead()), []byte{201}, shape), api.ErrMany)
}

// P7.1: a byte changed changes what is read, or it is refused.
func TestReadEachByte(t *testing.T) {
	x := written(headed(based(4), paying(1, 2, 3, 2)))
	for at := range x {
		for _, turn := range []byte{0x01, 0x80, 0xff} {
			turned := slices.Clone(x)
			turned[at] ^= turn
			got, err := block.Read(turned)
			if err == nil && !bytes.Equal(written(got), turned) {
				t.Errorf("byte %d turned by %#x: what is read is another one", at, turn)
			}
			if err != nil && !equal(got, api.Block{}) {
				t.Errorf("byte %d turned by %#x: something beside %v", at, turn, err)
			}
		}
	}
}

// P7.1, P0.4: Read changes nothing of x, reads nothing behind its length, and keeps nothing of it.
func TestReadKeepsNothing(t *testing.T) {
	for what, b := range readable() {
		x := append(written(b), 1, 2, 3)
		before := slices.Clone(x)
		got, err := block.Read(x[:len(x)-3])
		if err != nil || !equal(got, b) {
			t.Errorf("%s with others behind its bytes: %v", what, err)
		}
		if !bytes.Equal(x, before) {
			t.Errorf("%s: its bytes were changed", what)
		}
		clear(x)
		if !equal(got, b) {
			t.Errorf("%s: what was read goes with its bytes", what)
		}
		spoil(got)
		if !bytes.Equal(x, make([]byte, len(x))) {
			t.Errorf("%s: the bytes go with what was read", what)
		}
	}
}

// P7.1, P0.4: two that were read from the same bytes share no memory.
func TestReadAnswersNewMemory(t *testing.T) {
	for what, b := range readable() {
		x := written(b)
		first, _ := block.Read(x)
		second, _ := block.Read(x)
		spoil(first)
		if third, err := block.Read(x); err != nil || !equal(second, b) || !equal(third, b) {
			t.Errorf("%s: two answers share memory", what)
		}
	}
}

// apart asks that what is written into one transaction of b, or behind its lists, no other one of b shows.
func apart(t *testing.T, what string, b api.Block, answer func() api.Block) {
	t.Helper()
	for at := range b.Txs {
		got := answer()
		spoil(api.Block{Txs: got.Txs[at : at+1 : at+1]})
		got.Txs[at] = b.Txs[at]
		if !equal(got, b) {
			t.Errorf("%s: transaction %d shares memory with another one", what, at)
		}
	}
}

// P7.1, P0.4: the transactions of one answer share no memory.
func TestReadTransactionsApart(t *testing.T) {
	b := headed(based(9), paying(1, 5, 20, 3), paying(2, 3, 7, 4), paying(3, 1, api.MaxKey, 1))
	apart(t, "Read", b, func() api.Block {
		got, err := block.Read(written(b))
		if err != nil {
			t.Fatal(err)
		}
		return got
	})
}
