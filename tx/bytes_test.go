package tx_test

import (
	"bytes"
	"maps"
	"slices"
	"testing"

	"sargasso/api"
	"sargasso/tx"
)

// P4.1: Bytes of the zero value are ten, all 0, as the chapter's example tells it; nil and the empty lists are the same.
func TestBytesOfTheZeroValue(t *testing.T) {
	for _, x := range []api.Tx{{}, {Ins: []api.In{}, Outs: []api.Out{}}} {
		if b := tx.Bytes(x); !bytes.Equal(b, make([]byte, 10)) {
			t.Errorf("Bytes of %v: %v", x, b)
		}
		if n := tx.Size(x); n != 10 {
			t.Errorf("Size of %v: %d", x, n)
		}
	}
}

// P4.1: each field stands where it should, its lowest byte first.
func TestBytesWrittenByHand(t *testing.T) {
	x := api.Tx{
		Version: 0x01020304,
		Ins: []api.In{
			{From: api.Point{Tx: someHash(1), N: 0x11121314}, Key: []byte("ab"), Seq: 0x21222324},
			{From: api.Point{Tx: someHash(2), N: 5}, Seq: 6},
		},
		Outs: []api.Out{{Value: 0x3132333435363738, Lock: someHash(3)}},
		Time: 0x41424344,
	}
	first, second, lock := someHash(1), someHash(2), someHash(3)
	want := slices.Concat(
		[]byte{4, 3, 2, 1, 2},
		first[:], []byte{0x14, 0x13, 0x12, 0x11, 2, 'a', 'b', 0x24, 0x23, 0x22, 0x21},
		second[:], []byte{5, 0, 0, 0, 0, 6, 0, 0, 0},
		[]byte{1, 0x38, 0x37, 0x36, 0x35, 0x34, 0x33, 0x32, 0x31}, lock[:],
		[]byte{0x44, 0x43, 0x42, 0x41},
	)
	if b := tx.Bytes(x); !bytes.Equal(b, want) {
		t.Errorf("Bytes: %x", b)
	}
	if n := tx.Size(x); n != len(want) {
		t.Errorf("Size: %d", n)
	}
}

// P4.1: Bytes and Size are of any transaction, also of one that has more than may be.
func TestBytesOfAny(t *testing.T) {
	all := readable()
	maps.Copy(all, anySize())
	for what, x := range all {
		want := written(x)
		if b := tx.Bytes(x); !bytes.Equal(b, want) {
			t.Errorf("Bytes of %s: %d bytes, not the %d that it should be", what, len(b), len(want))
		}
		if n := tx.Size(x); n != len(want) {
			t.Errorf("Size of %s: %d, not %d", what, n, len(want))
		}
	}
}

// P4.1, P0.1: Bytes and Size of very many Ins and Outs end, well within the time of a test.
func TestBytesOfVeryMany(t *testing.T) {
	x := sized(1<<18, 0, 1<<18)
	if b := tx.Bytes(x); len(b) != tx.Size(x) || len(b) != 8+5+5+(1<<18)*(41+40) {
		t.Errorf("%d bytes, Size %d", len(b), tx.Size(x))
	}
}

// P4.1, P0.4: Bytes and Size change nothing of what they are handed, and read nothing behind its lengths.
func TestBytesLeaveWhatIsHandedIn(t *testing.T) {
	for what, x := range readable() {
		roomed, asItWas := roomy(x)
		want := written(x)
		if b, n := tx.Bytes(roomed), tx.Size(roomed); !bytes.Equal(b, want) || n != len(want) {
			t.Errorf("%s, with other things behind its lists: %d bytes, Size %d", what, len(b), n)
		}
		if !asItWas() {
			t.Errorf("%s was changed", what)
		}
	}
}

// P4.1, P0.4: Bytes are new memory each time: none of the transaction's, none of another answer's.
func TestBytesAreNewMemory(t *testing.T) {
	for what, x := range readable() {
		roomed, asItWas := roomy(x)
		first, second := tx.Bytes(roomed), tx.Bytes(roomed)
		first = first[:cap(first)]
		for i := range first {
			first[i] ^= 0xff
		}
		if !bytes.Equal(second, written(x)) {
			t.Errorf("%s: two answers share memory", what)
		}
		if !asItWas() {
			t.Errorf("%s shares memory with its Bytes", what)
		}
		spoil(roomed)
		if !bytes.Equal(second, written(x)) {
			t.Errorf("%s: its Bytes go with it", what)
		}
	}
}
