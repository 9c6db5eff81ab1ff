package compact_test

import (
	"bytes"
	"math"
	"slices"
	"testing"

	"sargasso/api"
	"sargasso/compact"
)

// counting are n bytes, each one more than the one ahead of it.
func counting(n int) []byte {
	b := make([]byte, n)
	for i := range b {
		b[i] = byte(i + 1)
	}
	return b
}

// expect holds what a Reader tells of itself against what it should.
func expect(t *testing.T, what string, r *compact.Reader, left int, err error) {
	t.Helper()
	if r.Left() != left || r.Err() != err {
		t.Errorf("%s: Left %d, Err %v; it should be %d, %v", what, r.Left(), r.Err(), left, err)
	}
}

// expectNothing asks each call of a Reader that has met an error: none answers anything, reads anything, or changes the error.
func expectNothing(t *testing.T, what string, r *compact.Reader) {
	t.Helper()
	left, err := r.Left(), r.Err()
	for range 2 {
		for _, most := range []uint64{0, 1, math.MaxUint64} {
			if n := r.Num(most); n != 0 {
				t.Errorf("%s: then Num(%d) is %d", what, most, n)
			}
		}
		if n := r.Four(); n != 0 {
			t.Errorf("%s: then Four is %d", what, n)
		}
		if n := r.Eight(); n != 0 {
			t.Errorf("%s: then Eight is %d", what, n)
		}
		if h := r.Hash(); h != (api.Hash{}) {
			t.Errorf("%s: then Hash is %x", what, h)
		}
		for _, n := range []int{math.MinInt, -1, 0, 1, 4, 1000, math.MaxInt} {
			if b := r.Bytes(n); len(b) != 0 {
				t.Errorf("%s: then Bytes(%d) is %v", what, n, b)
			}
		}
		expect(t, what+", and then others", r, left, err)
	}
}

// P2.2: Num reads what Put writes, and no more; a number that is just as great as it may be is taken.
func TestNumReadsWhatPutWrites(t *testing.T) {
	for _, x := range edges() {
		for _, most := range []uint64{x.n, math.MaxUint64} {
			r := compact.Read(append(slices.Clone(x.want), 77, 78))
			if n := r.Num(most); n != x.n {
				t.Errorf("Num(%d) of %v: %d", most, x.want, n)
			}
			expect(t, "a number", r, 2, nil)
			if b := r.Bytes(2); !bytes.Equal(b, []byte{77, 78}) {
				t.Errorf("behind %v: %v", x.want, b)
			}
		}
	}
}

// P2.2: a number that is cut off is ErrEnd, whatever it may be at most; its first byte, where it is there, is read, what is there of those behind it is not.
func TestNumCutOff(t *testing.T) {
	for _, x := range []written{
		{0, []byte{7}},
		{0, []byte{253, 253, 0}},
		{0, []byte{254, 1, 0, 1, 0}},
		{0, []byte{255, 1, 2, 3, 4, 5, 6, 7, 8}},
		{0, []byte{253, 1, 0}}, // in more bytes than it needs
		{0, []byte{255, 0, 0, 0, 0, 0, 0, 0, 0}},
	} {
		for cut := range x.want {
			for _, most := range []uint64{0, 5, math.MaxUint64} {
				r := compact.Read(x.want[:cut])
				if n := r.Num(most); n != 0 {
					t.Errorf("Num(%d) of %v: %d", most, x.want[:cut], n)
				}
				expect(t, "a number cut off", r, max(cut-1, 0), api.ErrEnd)
				expectNothing(t, "a number cut off", r)
			}
		}
	}
}

// P2.2: a number in more bytes than it needs is ErrShape, also where it is above what it may be; it is read.
func TestNumNotTheFewest(t *testing.T) {
	for _, b := range [][]byte{
		{253, 0, 0},
		{253, 252, 0},
		{254, 0, 0, 0, 0},
		{254, 252, 0, 0, 0},
		{254, 253, 0, 0, 0},
		{254, 255, 255, 0, 0},
		{255, 0, 0, 0, 0, 0, 0, 0, 0},
		{255, 252, 0, 0, 0, 0, 0, 0, 0},
		{255, 253, 0, 0, 0, 0, 0, 0, 0},
		{255, 255, 255, 0, 0, 0, 0, 0, 0},
		{255, 0, 0, 1, 0, 0, 0, 0, 0},
		{255, 255, 255, 255, 255, 0, 0, 0, 0},
	} {
		for _, most := range []uint64{0, 1, math.MaxUint64} {
			r := compact.Read(append(slices.Clone(b), counting(50)...))
			if n := r.Num(most); n != 0 {
				t.Errorf("Num(%d) of %v: %d", most, b, n)
			}
			expect(t, "a number in too many bytes", r, 50, api.ErrShape)
			expectNothing(t, "a number in too many bytes", r)
		}
	}
}

// P2.2: a number above what it may be is ErrMany; it is read.
func TestNumAboveMost(t *testing.T) {
	for _, x := range edges() {
		if x.n == 0 {
			continue
		}
		for _, most := range []uint64{0, x.n / 2, x.n - 1} {
			r := compact.Read(append(slices.Clone(x.want), counting(50)...))
			if n := r.Num(most); n != 0 {
				t.Errorf("Num(%d) of %v: %d", most, x.want, n)
			}
			expect(t, "a number that is too great", r, 50, api.ErrMany)
			expectNothing(t, "a number that is too great", r)
		}
	}
}

// P2.2: Four, Eight, Hash and Bytes read what is next, one behind the other, and tell what is left.
func TestReaderGoesOn(t *testing.T) {
	b := counting(4 + 8 + 32 + 3 + 1)
	r := compact.Read(b)
	expect(t, "at the beginning", r, len(b), nil)
	if n := r.Four(); n != 0x04030201 {
		t.Errorf("Four: %x", n)
	}
	expect(t, "Four", r, 44, nil)
	if n := r.Eight(); n != 0x0c0b0a0908070605 {
		t.Errorf("Eight: %x", n)
	}
	expect(t, "Eight", r, 36, nil)
	if h := r.Hash(); !bytes.Equal(h[:], b[12:44]) {
		t.Errorf("Hash: %x", h)
	}
	expect(t, "Hash", r, 4, nil)
	if l := r.Bytes(3); !bytes.Equal(l, b[44:47]) {
		t.Errorf("Bytes: %v", l)
	}
	expect(t, "Bytes", r, 1, nil)
	if n := r.Num(48); n != 48 {
		t.Errorf("Num: %d", n)
	}
	expect(t, "Num", r, 0, nil)
}

// P2.2: Four and Eight of the greatest number.
func TestReaderOfOnes(t *testing.T) {
	r := compact.Read(bytes.Repeat([]byte{255}, 12))
	if four, eight := r.Four(), r.Eight(); four != math.MaxUint32 || eight != math.MaxUint64 {
		t.Errorf("Four %x, Eight %x", four, eight)
	}
	expect(t, "ones", r, 0, nil)
}

// P2.2: Four, Eight and Hash of fewer bytes than they need are ErrEnd, and read none of them.
func TestFixedWidthsCutOff(t *testing.T) {
	for name, x := range map[string]struct {
		width int
		isNil func(r *compact.Reader) bool
	}{
		"Four":  {4, func(r *compact.Reader) bool { return r.Four() == 0 }},
		"Eight": {8, func(r *compact.Reader) bool { return r.Eight() == 0 }},
		"Hash":  {32, func(r *compact.Reader) bool { return r.Hash() == api.Hash{} }},
	} {
		for cut := range x.width {
			r := compact.Read(counting(cut))
			if !x.isNil(r) {
				t.Errorf("%s of %d bytes answers something", name, cut)
			}
			expect(t, name+" cut off", r, cut, api.ErrEnd)
			expectNothing(t, name+" cut off", r)
		}
		r := compact.Read(counting(x.width))
		if x.isNil(r) {
			t.Errorf("%s of just enough bytes answers nothing", name)
		}
		expect(t, name+" of just enough bytes", r, 0, nil)
	}
}

// P2.2: Bytes of 0 and of less is none, and no error; of all that is left all; of one more, ErrEnd, and nothing is read.
func TestBytesAtTheEdges(t *testing.T) {
	for _, size := range []int{0, 1, 5, 300} {
		r := compact.Read(counting(size))
		for _, n := range []int{math.MinInt, -5, -1, 0} {
			if b := r.Bytes(n); len(b) != 0 {
				t.Errorf("Bytes(%d): %v", n, b)
			}
			expect(t, "Bytes of none", r, size, nil)
		}
		if b := r.Bytes(size); !bytes.Equal(b, counting(size)) {
			t.Errorf("Bytes of all: %v", b)
		}
		expect(t, "Bytes of all", r, 0, nil)
		if len(r.Bytes(0)) != 0 || len(r.Bytes(-1)) != 0 {
			t.Error("Bytes of none, behind all, answers something")
		}
		expect(t, "Bytes of none, behind all", r, 0, nil)
		for _, n := range []int{size + 1, size + 1000, math.MaxInt32, math.MaxInt - 1, math.MaxInt} {
			r := compact.Read(counting(size))
			if b := r.Bytes(n); len(b) != 0 {
				t.Errorf("Bytes(%d) of %d bytes: %v", n, size, b)
			}
			expect(t, "Bytes of too many", r, size, api.ErrEnd)
			expectNothing(t, "Bytes of too many", r)
		}
	}
}

// P2.2: what was read ahead of an error stays read.
func TestErrorInTheMiddle(t *testing.T) {
	r := compact.Read([]byte{1, 0, 0, 0, 9, 8, 7})
	if r.Four() != 1 || r.Num(9) != 9 {
		t.Error("what stands ahead of the error is not read")
	}
	if r.Four() != 0 {
		t.Error("Four of two bytes answers something")
	}
	expect(t, "an error in the middle", r, 2, api.ErrEnd)
	expectNothing(t, "an error in the middle", r)
}

// P2.2: a Reader of nothing has nothing left, and no error until it is asked for something.
func TestReaderOfNothing(t *testing.T) {
	for _, b := range [][]byte{nil, {}} {
		r := compact.Read(b)
		if len(r.Bytes(0)) != 0 {
			t.Error("Bytes of nothing answers something")
		}
		expect(t, "nothing", r, 0, nil)
		if r.Num(math.MaxUint64) != 0 {
			t.Error("Num of nothing answers something")
		}
		expect(t, "Num of nothing", r, 0, api.ErrEnd)
		expectNothing(t, "Num of nothing", r)
	}
}

// P2.2, P0.4: a Reader neither keeps nor changes what it is handed, and reads nothing behind its length.
func TestReaderLeavesWhatIsHandedIn(t *testing.T) {
	memory := append([]byte{253, 0, 1}, counting(60)...)
	before := slices.Clone(memory)
	r := compact.Read(memory[:40])
	if r.Num(256) != 256 {
		t.Error("Num is another one")
	}
	r.Bytes(30)[0] = 99
	r.Eight()
	expect(t, "bytes behind the length", r, 7, api.ErrEnd)
	if !bytes.Equal(memory, before) {
		t.Error("what was handed in is changed")
	}

	r = compact.Read(memory)
	clear(memory)
	if r.Num(256) != 256 || r.Four() != 0x04030201 || !bytes.Equal(r.Bytes(2), []byte{5, 6}) {
		t.Error("a Reader keeps the memory that it was handed")
	}
}

// P2.2, P0.4: what Bytes hands out is new memory, spare room too.
func TestBytesAnswersNewMemory(t *testing.T) {
	b := counting(20)
	r := compact.Read(b)
	var lists, wants [][]byte
	for _, n := range []int{0, 5, 0, 5, 3} {
		l := r.Bytes(n)
		lists, wants = append(lists, l), append(wants, slices.Clone(l))
	}
	for i, l := range lists {
		whole := l[:cap(l)]
		for k := range whole {
			whole[k] = 0xee
		}
		for k := i + 1; k < len(lists); k++ {
			if !bytes.Equal(lists[k], wants[k]) {
				t.Errorf("a write into list %d is seen in list %d: %v", i, k, lists[k])
			}
		}
	}
	if got := r.Bytes(7); !bytes.Equal(got, counting(20)[13:]) {
		t.Errorf("a write into a list is seen in the Reader: %v", got)
	}
	if !bytes.Equal(b, counting(20)) {
		t.Error("a write into a list is seen in what was handed in")
	}
}

// P2.2, P0.5: two Readers of one list know nothing of each other.
func TestReadersApart(t *testing.T) {
	b := counting(6)
	first, second := compact.Read(b), compact.Read(b)
	first.Four()
	first.Eight()
	expect(t, "the first", first, 2, api.ErrEnd)
	expect(t, "the second", second, 6, nil)
	if second.Four() != 0x04030201 {
		t.Error("the second is another one")
	}
}
