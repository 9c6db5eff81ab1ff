package tx_test

import (
	"bytes"
	"slices"
	"testing"

	"sargasso/api"
	"sargasso/compact"
	"sargasso/tx"
)

// expectRefused asks that b is not read, because of err: nothing is answered, by Read or by Take.
func expectRefused(t *testing.T, what string, b []byte, err error) {
	t.Helper()
	if x, got := tx.Read(b); got != err || !equal(x, api.Tx{}) {
		t.Errorf("Read of %s: %v, %v; the error should be %v", what, x, got, err)
	}
	r := compact.Read(b)
	if x := tx.Take(r); r.Err() != err || !equal(x, api.Tx{}) {
		t.Errorf("Take of %s: %v, %v; the error should be %v", what, x, r.Err(), err)
	}
}

// P4.1: Read and Take of what Bytes wrote are what was written.
func TestReadWhatBytesWrote(t *testing.T) {
	for what, x := range readable() {
		b := written(x)
		if got, err := tx.Read(b); err != nil || !equal(got, x) {
			t.Errorf("Read of %s: %v, %v", what, got, err)
		}
		r := compact.Read(b)
		if got := tx.Take(r); !equal(got, x) || r.Err() != nil || r.Left() != 0 {
			t.Errorf("Take of %s: %v, %v, %d bytes left", what, got, r.Err(), r.Left())
		}
	}
}

// P4.1: bytes that are cut off are ErrEnd at each place.
func TestReadCutOff(t *testing.T) {
	for what, x := range readable() {
		b := written(x)
		for n := range b {
			expectRefused(t, what+", cut off", b[:n], api.ErrEnd)
		}
	}
	expectRefused(t, "nil", nil, api.ErrEnd)
}

// P4.1: bytes that are left behind the transaction are ErrShape for Read, none of Take's concern.
func TestReadWithBytesLeft(t *testing.T) {
	for what, x := range readable() {
		for _, more := range [][]byte{{0}, {1}, {255}, make([]byte, 10), written(x)} {
			b := append(written(x), more...)
			if got, err := tx.Read(b); err != api.ErrShape || !equal(got, api.Tx{}) {
				t.Errorf("Read of %s and %d bytes: %v, %v", what, len(more), got, err)
			}
			r := compact.Read(b)
			if got := tx.Take(r); !equal(got, x) || r.Err() != nil || r.Left() != len(more) {
				t.Errorf("Take of %s and %d bytes: %v, %v, %d left", what, len(more), got, r.Err(), r.Left())
			}
			if rest := r.Bytes(len(more)); !bytes.Equal(rest, more) {
				t.Errorf("behind Take of %s: %v, not %v", what, rest, more)
			}
		}
	}
}

// counts are bytes up to each of a transaction's three kinds of counts, and the most that each may be.
func counts() map[string]struct {
	ahead []byte
	most  int
} {
	in := append(make([]byte, 4), 1)
	in = append(in, make([]byte, 36)...)
	return map[string]struct {
		ahead []byte
		most  int
	}{
		"how many Ins":     {make([]byte, 4), api.MaxIns},
		"how many Outs":    {make([]byte, 5), api.MaxOuts},
		"bytes of a Key":   {in, api.MaxKey},
		"of a second Key":  {slices.Concat(make([]byte, 4), []byte{2}, make([]byte, 41+36)), api.MaxKey},
		"Outs behind Ins":  {slices.Concat(in, make([]byte, 5)), api.MaxOuts},
		"Outs behind Keys": {slices.Concat(in, []byte{2, 9, 9, 0, 0, 0, 0}), api.MaxOuts},
	}
}

// P4.1: a count in more bytes than it needs is ErrShape, whatever is behind it, also where it is more than may be.
func TestReadCountsNotTheFewest(t *testing.T) {
	for what, x := range counts() {
		for _, count := range [][]byte{
			{253, 0, 0},
			{253, 1, 0},
			{253, 252, 0},
			{254, 1, 0, 0, 0},
			{254, 255, 255, 0, 0},
			{255, 1, 0, 0, 0, 0, 0, 0, 0},
			{255, 255, 255, 255, 255, 0, 0, 0, 0},
		} {
			b := append(slices.Clone(x.ahead), count...)
			expectRefused(t, what, b, api.ErrShape)
			expectRefused(t, what+" with bytes behind", append(b, make([]byte, 5000)...), api.ErrShape)
		}
	}
}

// P4.1: a count that is more than may be is ErrMany, whatever is behind it; one that is just as much as may be is read.
func TestReadCountsTooGreat(t *testing.T) {
	for what, x := range counts() {
		for _, count := range [][]byte{
			{byte(x.most + 1)},
			{252},
			{253, 253, 0},
			{253, 255, 255},
			{254, 0, 0, 1, 0},
			{255, 0, 0, 0, 0, 1, 0, 0, 0},
			{255, 255, 255, 255, 255, 255, 255, 255, 255},
		} {
			b := append(slices.Clone(x.ahead), count...)
			expectRefused(t, what, b, api.ErrMany)
			expectRefused(t, what+" with bytes behind", append(b, make([]byte, 5000)...), api.ErrMany)
		}
		most := append(slices.Clone(x.ahead), byte(x.most))
		expectRefused(t, what+", the most", most, api.ErrEnd)
		r := compact.Read(append(most, make([]byte, 7000)...))
		if tx.Take(r); r.Err() != nil {
			t.Errorf("%s, the most, with bytes behind: %v", what, r.Err())
		}
	}
}

// P4.1: the counts that Bytes writes of what has one more than may be are ErrMany.
func TestReadOneMoreThanMayBe(t *testing.T) {
	for what, x := range anySize() {
		expectRefused(t, what, written(x), api.ErrMany)
	}
	two := sized(2, api.MaxKey, 1)
	two.Ins[1].Key = someKey(api.MaxKey + 1)
	expectRefused(t, "a second Key of MaxKey + 1", written(two), api.ErrMany)
}

// P4.1: the error is the one that is met first in the order of the bytes.
func TestReadTellsTheFirstError(t *testing.T) {
	x := sized(2, 3, 2)
	x.Ins[1].Key = someKey(api.MaxKey + 1)
	b := written(x)
	expectRefused(t, "too long a Key, with bytes left", append(slices.Clone(b), 0), api.ErrMany)
	expectRefused(t, "too long a Key, cut off behind", b[:len(b)-1], api.ErrMany)
	secondKey := 5 + 44 + 36
	expectRefused(t, "too long a Key, cut off in it", b[:secondKey+10], api.ErrMany)
	expectRefused(t, "too long a Key, cut off at its length", b[:secondKey], api.ErrEnd)
	b[5+36] = 252
	expectRefused(t, "two Keys too long", b, api.ErrMany)
	b[4] = 253
	expectRefused(t, "a count of Ins not in the fewest bytes", append(slices.Clone(b[:5]), append([]byte{2, 0}, b[5:]...)...), api.ErrShape)
}

// P4.1: each field's bytes are read where Bytes writes them: a byte changed changes what is read, or it is refused.
func TestReadEachByte(t *testing.T) {
	x := sized(2, 3, 2)
	b := written(x)
	for at := range b {
		for _, turn := range []byte{0x01, 0x80, 0xff} {
			turned := slices.Clone(b)
			turned[at] ^= turn
			got, err := tx.Read(turned)
			if err == nil && !bytes.Equal(written(got), turned) {
				t.Errorf("byte %d turned by %#x: what is read is another one", at, turn)
			}
			if err != nil && !equal(got, api.Tx{}) {
				t.Errorf("byte %d turned by %#x: %v beside %v", at, turn, got, err)
			}
		}
	}
}

// P4.1, P0.4: Read changes nothing of b, reads nothing behind its length, and keeps nothing of it.
func TestReadKeepsNothing(t *testing.T) {
	for what, x := range readable() {
		b := append(written(x), 1, 2, 3)
		before := slices.Clone(b)
		got, err := tx.Read(b[:len(b)-3])
		if err != nil || !equal(got, x) {
			t.Errorf("%s with others behind its bytes: %v", what, err)
		}
		if !bytes.Equal(b, before) {
			t.Errorf("%s: its bytes were changed", what)
		}
		clear(b)
		if !equal(got, x) {
			t.Errorf("%s: what was read goes with its bytes", what)
		}
		spoil(got)
		if !bytes.Equal(b, make([]byte, len(b))) {
			t.Errorf("%s: the bytes go with what was read", what)
		}
	}
}

// P4.1, P0.4: two that were read from the same bytes share no memory, nor do the lists of one.
func TestReadAnswersNewMemory(t *testing.T) {
	for what, x := range readable() {
		b := written(x)
		first, _ := tx.Read(b)
		second, _ := tx.Read(b)
		spoil(first)
		if !equal(second, x) {
			t.Errorf("%s: two answers share memory", what)
		}
		r := compact.Read(append(slices.Clone(b), b...))
		first, second = tx.Take(r), tx.Take(r)
		spoil(first)
		if !equal(second, x) {
			t.Errorf("%s: two that were taken from one Reader share memory", what)
		}
	}
}

// P4.1, P0.4: what is written into one Key that was read, or behind it, no other Key of the answer shows.
func TestReadKeysApart(t *testing.T) {
	x := sized(api.MaxIns, 20, 3)
	for at := range x.Ins {
		got, err := tx.Read(written(x))
		if err != nil {
			t.Fatal(err)
		}
		key := append(got.Ins[at].Key, bytes.Repeat([]byte{0xdd}, 60)...)
		clear(key[:20])
		want := copied(x)
		got.Ins[at].Key, want.Ins[at].Key = nil, nil
		if !equal(got, want) {
			t.Errorf("Key %d shares memory with another one", at)
		}
	}
}

// P4.1: transactions that stand in a row are taken one by one, and each leaves what is behind it.
func TestTakeInARow(t *testing.T) {
	row := []api.Tx{sized(2, 3, 1), {}, sized(api.MaxIns, api.MaxKey, api.MaxOuts), based(4), sized(1, 0, 2)}
	var b []byte
	for _, x := range row {
		b = append(b, written(x)...)
	}
	r := compact.Read(append(b, 9))
	left := len(b) + 1
	for i, x := range row {
		left -= len(written(x))
		if got := tx.Take(r); !equal(got, x) || r.Err() != nil || r.Left() != left {
			t.Errorf("number %d: %v, %v, %d left", i, got, r.Err(), r.Left())
		}
	}
	if got := tx.Take(r); !equal(got, api.Tx{}) || r.Err() != api.ErrEnd {
		t.Errorf("behind the last: %v, %v", got, r.Err())
	}
}

// P4.1: Take reads on where its Reader stands.
func TestTakeBehindOtherThings(t *testing.T) {
	x := sized(2, 5, 2)
	b := slices.Concat([]byte{1, 2, 3, 4, 7}, written(x), []byte{8, 0, 0, 0})
	r := compact.Read(b)
	if four, num := r.Four(), r.Num(9); four != 0x04030201 || num != 7 {
		t.Errorf("%#x, %d", four, num)
	}
	if got := tx.Take(r); !equal(got, x) {
		t.Errorf("%v", got)
	}
	if four := r.Four(); four != 8 || r.Err() != nil || r.Left() != 0 {
		t.Errorf("%d, %v, %d left", four, r.Err(), r.Left())
	}
}

// P4.1: behind an error of its Reader Take answers the zero value, reads nothing, and leaves the first error.
func TestTakeBehindAnError(t *testing.T) {
	whole := written(sized(1, 2, 1))
	for _, x := range []struct {
		what string
		b    []byte
		fail func(r *compact.Reader)
		err  error
	}{
		{"ErrEnd", whole, func(r *compact.Reader) { r.Bytes(len(whole) + 1) }, api.ErrEnd},
		{"ErrShape", append([]byte{253, 0, 0}, whole...), func(r *compact.Reader) { r.Num(1) }, api.ErrShape},
		{"ErrMany", append([]byte{9}, whole...), func(r *compact.Reader) { r.Num(8) }, api.ErrMany},
		{"Take's own", append([]byte{0, 0, 0, 0, 51}, whole...), func(r *compact.Reader) { tx.Take(r) }, api.ErrMany},
	} {
		r := compact.Read(x.b)
		x.fail(r)
		left := r.Left()
		for range 3 {
			if got := tx.Take(r); !equal(got, api.Tx{}) || r.Err() != x.err || r.Left() != left {
				t.Errorf("behind %s: %v, %v, %d left, not %d", x.what, got, r.Err(), r.Left(), left)
			}
		}
	}
}

// P4.1: a Reader whose transaction was refused reads nothing behind it.
func TestTakeRefusedStays(t *testing.T) {
	b := append([]byte{0, 0, 0, 0, 51}, written(sized(1, 2, 1))...)
	r := compact.Read(b)
	tx.Take(r)
	if r.Err() != api.ErrMany || r.Left() != len(b)-5 || r.Four() != 0 || r.Left() != len(b)-5 {
		t.Errorf("%v, %d left", r.Err(), r.Left())
	}
}

// P4.3: Read of Bytes of what Check takes is it, and Bytes of what is read are what was read.
func TestReadAndBytesUndoEachOther(t *testing.T) {
	taken := 0
	for ins := range api.MaxIns + 1 {
		for _, key := range []int{0, 1, 4, 33, api.MaxKey} {
			for outs := range api.MaxOuts + 1 {
				x := sized(ins, key, outs)
				if tx.Check(x) != nil {
					continue
				}
				taken++
				b := tx.Bytes(x)
				back, err := tx.Read(b)
				if err != nil || !equal(back, x) || !bytes.Equal(tx.Bytes(back), b) {
					t.Fatalf("%d Ins, Keys of %d bytes, %d Outs: %v", ins, key, outs, err)
				}
			}
		}
	}
	if taken < 5000 {
		t.Errorf("Check took %d alone", taken)
	}
	for _, key := range []int{4, 5, api.MaxKey} {
		b := tx.Bytes(based(key))
		if back, err := tx.Read(b); tx.Check(based(key)) != nil || err != nil || !equal(back, based(key)) {
			t.Errorf("new coins, a Key of %d bytes: %v", key, err)
		}
	}
}

// P4.3: Bytes of what is read are what was read, also of what Check does not take.
func TestBytesOfWhatIsRead(t *testing.T) {
	for what, x := range readable() {
		b := written(x)
		back, err := tx.Read(b)
		if err != nil || !bytes.Equal(tx.Bytes(back), b) || tx.Size(back) != len(b) || tx.ID(back) != tx.ID(x) {
			t.Errorf("%s: %v", what, err)
		}
	}
}
