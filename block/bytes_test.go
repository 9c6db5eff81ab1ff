package block_test

import (
	"bytes"
	"maps"
	"slices"
	"testing"

	"sargasso/api"
	"sargasso/block"
	"sargasso/head"
	"sargasso/tx"
)

// P7.1: Bytes of the zero value are those of the zero header, and a count of 0; nil and the empty list are the same.
func TestBytesOfTheZeroValue(t *testing.T) {
	for _, b := range []api.Block{{}, {Txs: []api.Tx{}}} {
		if x := block.Bytes(b); !bytes.Equal(x, make([]byte, 81)) {
			t.Errorf("Bytes of %v: %v", b, x)
		}
		if n := block.Size(b); n != 81 {
			t.Errorf("Size of %v: %d", b, n)
		}
	}
}

// P7.1: the header, how many transactions, and these, in their order.
func TestBytesInTheirOrder(t *testing.T) {
	b := headed(paying(1, 2, 3, 1), based(4), paying(2, 1, 0, 2))
	want := slices.Concat(head.Bytes(b.Head), []byte{3}, tx.Bytes(b.Txs[0]), tx.Bytes(b.Txs[1]), tx.Bytes(b.Txs[2]))
	if x := block.Bytes(b); !bytes.Equal(x, want) {
		t.Errorf("Bytes: %x", x)
	}
	if n := block.Size(b); n != len(want) {
		t.Errorf("Size: %d", n)
	}
}

// P7.1: Bytes and Size are of any block, also of one that has more than may be.
func TestBytesOfAny(t *testing.T) {
	all := readable()
	maps.Copy(all, anySize())
	for what, b := range all {
		want := written(b)
		if x := block.Bytes(b); !bytes.Equal(x, want) {
			t.Errorf("Bytes of %s: %d bytes, not the %d that it should be", what, len(x), len(want))
		}
		if n := block.Size(b); n != len(want) {
			t.Errorf("Size of %s: %d, not %d", what, n, len(want))
		}
	}
}

// P7.1: the count has one byte up to 252 transactions, three from there on.
func TestBytesOfTheCount(t *testing.T) {
	for many := range 300 {
		b := headed(make([]api.Tx, many)...)
		want := 80 + 1 + 10*many
		if many > 252 {
			want += 2
		}
		if x, n := block.Bytes(b), block.Size(b); len(x) != want || n != want {
			t.Errorf("%d transactions: %d bytes, Size %d, not %d", many, len(x), n, want)
		}
	}
}

// P7.1, P0.1: Bytes and Size of very many transactions end, well within the time of a test.
func TestBytesOfVeryMany(t *testing.T) {
	b := headed(make([]api.Tx, 1<<18)...)
	if x := block.Bytes(b); len(x) != block.Size(b) || len(x) != 80+5+10<<18 {
		t.Errorf("%d bytes, Size %d", len(x), block.Size(b))
	}
}

// P7.1, P0.4: Bytes and Size change nothing of what they are handed, and read nothing behind its lengths.
func TestBytesLeaveWhatIsHandedIn(t *testing.T) {
	for what, b := range readable() {
		roomed, asItWas := roomy(b)
		want := written(b)
		if x, n := block.Bytes(roomed), block.Size(roomed); !bytes.Equal(x, want) || n != len(want) {
			t.Errorf("%s, with other things behind its lists: %d bytes, Size %d", what, len(x), n)
		}
		if !asItWas() {
			t.Errorf("%s was changed", what)
		}
	}
}

// P7.1, P0.4: Bytes are new memory each time: none of the block's, none of another answer's.
func TestBytesAreNewMemory(t *testing.T) {
	for what, b := range readable() {
		roomed, asItWas := roomy(b)
		first, second := block.Bytes(roomed), block.Bytes(roomed)
		first = first[:cap(first)]
		for i := range first {
			first[i] ^= 0xff
		}
		if !bytes.Equal(second, written(b)) {
			t.Errorf("%s: two answers share memory", what)
		}
		if !asItWas() {
			t.Errorf("%s shares memory with its Bytes", what)
		}
		spoil(roomed)
		if !bytes.Equal(second, written(b)) {
			t.Errorf("%s: its Bytes go with it", what)
		}
	}
}
