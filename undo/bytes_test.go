package undo_test

import (
	"bytes"
	"encoding/binary"
	"math"
	"slices"
	"testing"

	"sargasso/api"
	"sargasso/undo"
)

// ones is the greatest digest.
func ones() api.Hash {
	return api.Hash(bytes.Repeat([]byte{0xff}, 32))
}

// spents are coins of all kinds of numbers, whose Heights have 32 bits: Bytes and Read are of any.
func spents() []api.Spent {
	return []api.Spent{
		{},
		{At: api.Point{Tx: someHash(1), N: 0x01020304}, Coin: api.Money{Value: 0x05060708090a0b0c, Lock: someHash(2), Height: 0x0d0e0f10, Base: true}},
		{At: api.Point{Tx: ones(), N: math.MaxUint32}, Coin: api.Money{Value: math.MaxUint64, Lock: ones(), Height: math.MaxUint32, Base: true}},
		{At: api.Point{Tx: someHash(3)}},
		{At: api.Point{N: 1}},
		{Coin: api.Money{Value: 1}},
		{Coin: api.Money{Value: api.MaxMoney + 1}},
		{Coin: api.Money{Lock: someHash(4)}},
		{Coin: api.Money{Height: 1}},
		{Coin: api.Money{Height: 70000}},
		{Coin: api.Money{Height: 1 << 31}},
		{Coin: api.Money{Base: true}},
		{At: place(1), Coin: api.Money{Value: 5}},
		{At: place(1), Coin: api.Money{Value: 5}},
	}
}

// counted are n coins, no two beside each other the same.
func counted(n int) (l []api.Spent) {
	for i := range n {
		l = append(l, api.Spent{At: api.Point{Tx: someHash(i), N: uint32(i)}, Coin: api.Money{Value: uint64(3 * i), Height: i, Base: i%3 == 0}})
	}
	return l
}

// lists are lists of coins that Read takes.
func lists() map[string][]api.Spent {
	return map[string][]api.Spent{
		"none":               nil,
		"one of nothing":     {{}},
		"one":                spents()[1:2],
		"all kinds":          spents(),
		"252":                counted(252),
		"253":                counted(253),
		"as many as may be":  counted(10000),
		"one less than that": counted(9999),
	}
}

// written is l as the chapter says that its bytes are, by the library's means.
func written(l []api.Spent) []byte {
	order := binary.LittleEndian
	var b []byte
	switch n := len(l); {
	case n < 253:
		b = append(b, byte(n))
	case n < 1<<16:
		b = order.AppendUint16(append(b, 253), uint16(n))
	default:
		b = order.AppendUint32(append(b, 254), uint32(n))
	}
	for _, c := range l {
		b = append(b, c.At.Tx[:]...)
		b = order.AppendUint32(b, c.At.N)
		b = order.AppendUint64(b, c.Coin.Value)
		b = append(b, c.Coin.Lock[:]...)
		b = order.AppendUint32(b, uint32(c.Coin.Height))
		base := byte(0)
		if c.Coin.Base {
			base = 1
		}
		b = append(b, base)
	}
	return b
}

// expectRefused asks that b is not read, because of err, and that nothing is answered beside it.
func expectRefused(t *testing.T, what string, b []byte, err error) {
	t.Helper()
	if l, got := undo.Read(b); got != err || len(l) > 0 {
		t.Errorf("Read of %s: %d coins, %v; the error should be %v", what, len(l), got, err)
	}
}

// P9.3: Bytes are how many, and each coin with its place, field behind field.
func TestBytes(t *testing.T) {
	for what, l := range lists() {
		if got := undo.Bytes(l); !bytes.Equal(got, written(l)) {
			t.Errorf("Bytes of %s: %x", what, got)
		}
	}
	for what, l := range map[string][]api.Spent{
		"one more than Read takes": counted(10001),
		"65,535":                   counted(1<<16 - 1),
		"65,536":                   counted(1 << 16),
	} {
		if !bytes.Equal(undo.Bytes(l), written(l)) {
			t.Errorf("Bytes of %s", what)
		}
	}
}

// P9.3: Bytes of one, byte by byte; of none, one byte.
func TestBytesByHand(t *testing.T) {
	x, lock := someHash(1), someHash(2)
	want := slices.Concat([]byte{1}, x[:], []byte{4, 3, 2, 1}, []byte{0x0c, 0x0b, 0x0a, 9, 8, 7, 6, 5}, lock[:], []byte{0x10, 0x0f, 0x0e, 0x0d, 1})
	if got := undo.Bytes(spents()[1:2]); !bytes.Equal(got, want) {
		t.Errorf("%x", got)
	}
	for _, l := range [][]api.Spent{nil, {}} {
		if got := undo.Bytes(l); !bytes.Equal(got, []byte{0}) {
			t.Errorf("Bytes of none: %x", got)
		}
	}
	if got := undo.Bytes([]api.Spent{{}}); !bytes.Equal(got, append([]byte{1}, make([]byte, 81)...)) {
		t.Errorf("Bytes of one of nothing: %x", got)
	}
}

// P9.3: of a Height 32 bits are written, and these are read.
func TestHeights(t *testing.T) {
	for _, x := range []struct {
		height, read int
		want         []byte
	}{
		{0, 0, []byte{0, 0, 0, 0}},
		{1, 1, []byte{1, 0, 0, 0}},
		{0x01020304, 0x01020304, []byte{4, 3, 2, 1}},
		{api.MaxHeight, api.MaxHeight, []byte{0, 0, 16, 0}},
		{math.MaxInt32, math.MaxInt32, []byte{255, 255, 255, 127}},
		{1 << 31, 1 << 31, []byte{0, 0, 0, 128}},
		{math.MaxUint32, math.MaxUint32, []byte{255, 255, 255, 255}},
		{1 << 32, 0, []byte{0, 0, 0, 0}},
		{0x1122334455667788, 0x55667788, []byte{0x88, 0x77, 0x66, 0x55}},
		{math.MaxInt, math.MaxUint32, []byte{255, 255, 255, 255}},
		{-1, math.MaxUint32, []byte{255, 255, 255, 255}},
		{-2, math.MaxUint32 - 1, []byte{254, 255, 255, 255}},
		{math.MinInt, 0, []byte{0, 0, 0, 0}},
	} {
		l := []api.Spent{{At: place(1), Coin: api.Money{Value: 5, Height: x.height, Base: true}}}
		b := undo.Bytes(l)
		if !bytes.Equal(b, written(l)) || !bytes.Equal(b[len(b)-5:len(b)-1], x.want) {
			t.Errorf("height %d: %x", x.height, b)
		}
		l[0].Coin.Height = x.read
		if got, err := undo.Read(b); err != nil || !slices.Equal(got, l) {
			t.Errorf("height %d: %v, %v", x.height, got, err)
		}
	}
}

// P9.3: Read of what Bytes wrote is what was written, and Bytes of what is read are these.
func TestReadWhatBytesWrote(t *testing.T) {
	for what, l := range lists() {
		got, err := undo.Read(written(l))
		if err != nil || !slices.Equal(got, l) {
			t.Errorf("Read of %s: %d coins, %v", what, len(got), err)
		}
		if !bytes.Equal(undo.Bytes(got), written(l)) {
			t.Errorf("Bytes of what is read of %s", what)
		}
	}
}

// P9.3: what Apply took can be written, read and taken back.
func TestReadOfWhatWasTaken(t *testing.T) {
	have := without(some(), place(4), place(5))
	s := setOf(t, have)
	taken, err := undo.Apply(s, 30, three()...)
	if err != nil {
		t.Fatal(err)
	}
	read, err := undo.Read(undo.Bytes(taken))
	if err != nil || !slices.Equal(read, taken) {
		t.Errorf("%v, %v", read, err)
	}
	if err := undo.Unapply(s, read, three()...); err != nil {
		t.Error(err)
	}
	expect(t, "taken back", s, have)
}

// P9.3: bytes that are cut off are ErrEnd at each place.
func TestReadCutOff(t *testing.T) {
	for what, l := range map[string][]api.Spent{"one": spents()[1:2], "all kinds": spents(), "253": counted(253)} {
		b := written(l)
		for n := range b {
			expectRefused(t, what+", cut off", b[:n], api.ErrEnd)
		}
	}
	expectRefused(t, "nil", nil, api.ErrEnd)
	expectRefused(t, "as many as may be, without them", []byte{253, 0x10, 0x27}, api.ErrEnd)
	expectRefused(t, "two, of which one is there", append([]byte{2}, written(spents()[:1])[1:]...), api.ErrEnd)
}

// P9.3: bytes that are left are ErrShape.
func TestReadWithBytesLeft(t *testing.T) {
	for what, l := range lists() {
		for _, more := range [][]byte{{0}, {1}, {255}, make([]byte, 81), written(l)} {
			expectRefused(t, what+", and more", append(written(l), more...), api.ErrShape)
		}
	}
	expectRefused(t, "one, of which two are there", append([]byte{1}, written(spents()[:2])[1:]...), api.ErrShape)
}

// P9.3: more than 10,000 are ErrMany, whether they are there or not; a count that is not in the fewest bytes is ErrShape.
func TestReadOfCounts(t *testing.T) {
	expectRefused(t, "one too many", written(counted(10001)), api.ErrMany)
	for _, b := range [][]byte{
		{253, 0x11, 0x27},
		{253, 255, 255},
		{254, 0, 0, 1, 0},
		{255, 0, 0, 0, 0, 1, 0, 0, 0},
		{255, 255, 255, 255, 255, 255, 255, 255, 255},
		{255, 255, 255, 255, 255, 255, 255, 255, 127, 0, 0},
	} {
		expectRefused(t, "a count alone", b, api.ErrMany)
	}
	for _, b := range [][]byte{
		{253, 0, 0},
		{253, 1, 0},
		{253, 252, 0},
		{254, 253, 0, 0, 0},
		{254, 0x11, 0x27, 0, 0},
		{255, 1, 0, 0, 0, 0, 0, 0, 0},
	} {
		expectRefused(t, "a count in too many bytes", b, api.ErrShape)
		expectRefused(t, "a count in too many bytes, and a coin", append(slices.Clone(b), make([]byte, 81)...), api.ErrShape)
	}
	for _, b := range [][]byte{{253}, {253, 1}, {254, 1, 0, 0}, {255, 0, 0, 0, 0, 0, 0, 0}} {
		expectRefused(t, "a count cut off", b, api.ErrEnd)
	}
}

// P9.3: a last byte that is neither 1 nor 0 is ErrShape, whichever coin's it is.
func TestReadOfLastBytes(t *testing.T) {
	l := spents()
	for i := range l {
		b := written(l)
		last := 81 * (i + 1)
		for wrong := 2; wrong < 256; wrong++ {
			b[last] = byte(wrong)
			expectRefused(t, "a wrong last byte", b, api.ErrShape)
		}
		for right := range 2 {
			b[last] = byte(right)
			want := spents()
			want[i].Coin.Base = right == 1
			if got, err := undo.Read(b); err != nil || !slices.Equal(got, want) {
				t.Errorf("a last byte of %d: %v, %v", right, got, err)
			}
		}
	}
}

// P9.3, P0.2: coins are read one by one: a wrong last byte is met ahead of where a later coin is cut off.
func TestReadWhichError(t *testing.T) {
	b := written(spents()[:3])
	b[81] = 2
	for n := 82; n <= len(b); n++ {
		expectRefused(t, "a wrong last byte, and an end", b[:n], api.ErrShape)
	}
	for n := range 82 {
		expectRefused(t, "an end ahead of a wrong last byte", b[:n], api.ErrEnd)
	}
	expectRefused(t, "a wrong last byte, and more", append(b, 0), api.ErrShape)
}

// P9.3, P0.4: Bytes neither changes nor keeps l, and reads nothing behind its length; its answers share nothing.
func TestBytesLeavesWhatIsHandedIn(t *testing.T) {
	memory := spents()
	first, second := undo.Bytes(memory[:3]), undo.Bytes(memory[:3])
	if !bytes.Equal(first, written(spents()[:3])) || !slices.Equal(memory, spents()) {
		t.Errorf("%x", first)
	}
	clear(first[:cap(first)])
	clear(memory)
	if !bytes.Equal(second, written(spents()[:3])) {
		t.Error("an answer goes with another one, or with what was handed in")
	}
}

// P9.3, P0.4: Read neither changes nor keeps b, and reads nothing behind its length; its answers share nothing.
func TestReadLeavesWhatIsHandedIn(t *testing.T) {
	b := written(spents())
	memory := append(slices.Clone(b), 1, 2, 3)
	first, err := undo.Read(memory[:len(b)])
	second, err2 := undo.Read(memory[:len(b)])
	if err != nil || err2 != nil || !slices.Equal(first, spents()) {
		t.Errorf("%v, %v, %v", first, err, err2)
	}
	if !bytes.Equal(memory, append(slices.Clone(b), 1, 2, 3)) {
		t.Error("what was handed in is changed")
	}
	clear(first[:cap(first)])
	clear(memory)
	if !slices.Equal(second, spents()) {
		t.Error("an answer goes with another one, or with what was handed in")
	}
}
