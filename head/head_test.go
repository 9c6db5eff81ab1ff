package head_test

import (
	"bytes"
	"crypto/sha256"
	"encoding/binary"
	"encoding/hex"
	"math"
	"slices"
	"testing"

	"sargasso/api"
	"sargasso/compact"
	"sargasso/head"
)

// someHash is a digest whose first byte is from, and each other one more than the one ahead of it.
func someHash(from byte) (h api.Hash) {
	for i := range h {
		h[i] = from + byte(i)
	}
	return h
}

// someHead is a header of which each byte is another one.
func someHead() api.Head {
	return api.Head{
		Version: 0x04030201,
		Prev:    someHash(0x10),
		Root:    someHash(0x40),
		Time:    0x84838281,
		Work:    0xa4a3a2a1,
		Nonce:   0xc4c3c2c1,
	}
}

// greatest is the header of the greatest numbers.
func greatest() api.Head {
	ones := api.Hash(bytes.Repeat([]byte{0xff}, 32))
	return api.Head{
		Version: math.MaxUint32,
		Prev:    ones,
		Root:    ones,
		Time:    math.MaxUint32,
		Work:    math.MaxUint32,
		Nonce:   math.MaxUint32,
	}
}

// samples are headers, of all kinds of numbers: Bytes, Read and Take are of any.
func samples() map[string]api.Head {
	return map[string]api.Head{
		"the zero value":       {},
		"some header":          someHead(),
		"the greatest numbers": greatest(),
		"a Version alone":      {Version: 7},
		"a Prev alone":         {Prev: someHash(1)},
		"a Root alone":         {Root: someHash(1)},
		"a Time alone":         {Time: 253},
		"a Work alone":         {Work: 1 << 24},
		"a Nonce alone":        {Nonce: 1 << 31},
		"a Work of none":       {Version: 1, Prev: someHash(2), Root: someHash(3), Time: 4, Nonce: 5},
		"too great a Work":     {Version: 1, Prev: someHash(2), Root: someHash(3), Time: 4, Work: 1<<24 + 1, Nonce: 5},
	}
}

// written is h as the chapter says that its bytes are, by the library's means.
func written(h api.Head) []byte {
	b := binary.LittleEndian.AppendUint32(nil, h.Version)
	b = append(b, h.Prev[:]...)
	b = append(b, h.Root[:]...)
	for _, n := range []uint32{h.Time, h.Work, h.Nonce} {
		b = binary.LittleEndian.AppendUint32(b, n)
	}
	return b
}

// twice is the digest of b's digest, by the library's means.
func twice(b []byte) api.Hash {
	once := sha256.Sum256(b)
	return sha256.Sum256(once[:])
}

// expectCutOff asks that b is not read, because of ErrEnd: nothing is answered, by Read or by Take, and Take leaves so many bytes.
func expectCutOff(t *testing.T, what string, b []byte, left int) {
	t.Helper()
	if h, err := head.Read(b); err != api.ErrEnd || h != (api.Head{}) {
		t.Errorf("Read of %s: %v, %v", what, h, err)
	}
	r := compact.Read(b)
	if h := head.Take(r); h != (api.Head{}) || r.Err() != api.ErrEnd || r.Left() != left {
		t.Errorf("Take of %s: %v, %v, %d left, not %d", what, h, r.Err(), r.Left(), left)
	}
}

// P5.1: a header has 80 bytes, and Size says so.
func TestSize(t *testing.T) {
	if head.Size != 80 {
		t.Errorf("Size is %d", head.Size)
	}
	for what, h := range samples() {
		if n := len(head.Bytes(h)); n != head.Size {
			t.Errorf("%s: %d bytes", what, n)
		}
	}
}

// P5.1: Bytes writes Version, Prev, Root, Time, Work, Nonce, each number in 4 bytes, the lowest first.
func TestBytesOfSomeHeader(t *testing.T) {
	want := []byte{1, 2, 3, 4}
	for i := range 32 {
		want = append(want, byte(0x10+i))
	}
	for i := range 32 {
		want = append(want, byte(0x40+i))
	}
	want = append(want, 0x81, 0x82, 0x83, 0x84, 0xa1, 0xa2, 0xa3, 0xa4, 0xc1, 0xc2, 0xc3, 0xc4)
	if got := head.Bytes(someHead()); !bytes.Equal(got, want) {
		t.Errorf("%x, not %x", got, want)
	}
}

// P5.1: Bytes is of any header, also of one that Check does not take.
func TestBytesOfAny(t *testing.T) {
	for what, h := range samples() {
		if got, want := head.Bytes(h), written(h); !bytes.Equal(got, want) {
			t.Errorf("%s: %x, not %x", what, got, want)
		}
	}
	if got := head.Bytes(api.Head{}); !bytes.Equal(got, make([]byte, 80)) {
		t.Errorf("the zero value: %x", got)
	}
}

// P5.1, P0.4: each answer of Bytes is new memory, its spare room too.
func TestBytesAnswersNewMemory(t *testing.T) {
	for what, h := range samples() {
		first, second := head.Bytes(h), head.Bytes(h)
		whole := first[:cap(first)]
		for i := range whole {
			whole[i] ^= 0xff
		}
		if !bytes.Equal(second, written(h)) || !bytes.Equal(head.Bytes(h), written(h)) {
			t.Errorf("%s: a write into one answer is seen in another one", what)
		}
	}
}

// P5.1: ID is digest.Twice of Bytes: held against the library's digests.
func TestIDOfAny(t *testing.T) {
	for what, h := range samples() {
		if got, want := head.ID(h), twice(written(h)); got != want {
			t.Errorf("%s: %x, not %x", what, got, want)
		}
	}
}

// P5.1: ID of a header of 80 zeros, and of one whose bytes and digest are known elsewhere.
func TestIDOfKnownHeaders(t *testing.T) {
	var root api.Hash
	if _, err := hex.Decode(root[:], []byte("3ba3edfd7a7b12b27ac72c3e67768f617fc81bc3888a51323a9fb8aa4b1e5e4a")); err != nil {
		t.Fatal(err)
	}
	for _, x := range []struct {
		h    api.Head
		want string
	}{
		{api.Head{}, "4be7570e8f70eb093640c8468274ba759745a7aa2b7d25ab1e0421b259845014"},
		{
			api.Head{Version: 1, Root: root, Time: 1231006505, Work: 0x1d00ffff, Nonce: 2083236893},
			"6fe28c0ab6f1b372c1a6a246ae63f74f931e8365e15a089c68d6190000000000",
		},
	} {
		got := head.ID(x.h)
		if hex.EncodeToString(got[:]) != x.want {
			t.Errorf("%v: %x", x.h, got)
		}
	}
}

// P5.1: ID hangs on each bit of each field.
func TestIDOfEachBit(t *testing.T) {
	b := written(someHead())
	seen := map[api.Hash]int{head.ID(someHead()): -1}
	for bit := range 8 * len(b) {
		turned := slices.Clone(b)
		turned[bit/8] ^= 1 << (bit % 8)
		h, err := head.Read(turned)
		if err != nil {
			t.Fatal(err)
		}
		id := head.ID(h)
		if other, is := seen[id]; is {
			t.Errorf("bits %d and %d have one ID", bit, other)
		}
		seen[id] = bit
	}
}

// P5.1: Read and Take of what Bytes wrote are what was written; neither asks Check.
func TestReadWhatBytesWrote(t *testing.T) {
	for what, h := range samples() {
		for _, b := range [][]byte{written(h), head.Bytes(h)} {
			if got, err := head.Read(b); err != nil || got != h {
				t.Errorf("Read of %s: %v, %v", what, got, err)
			}
			r := compact.Read(b)
			if got := head.Take(r); got != h || r.Err() != nil || r.Left() != 0 {
				t.Errorf("Take of %s: %v, %v, %d left", what, got, r.Err(), r.Left())
			}
		}
	}
}

// P5.1: Bytes of what is read are what was read, with each bit turned.
func TestReadEachBit(t *testing.T) {
	b := written(someHead())
	for bit := range 8 * len(b) {
		turned := slices.Clone(b)
		turned[bit/8] ^= 1 << (bit % 8)
		h, err := head.Read(turned)
		if err != nil || h == someHead() || !bytes.Equal(head.Bytes(h), turned) {
			t.Errorf("bit %d turned: %v, %v", bit, h, err)
		}
	}
}

// P5.1: a header that is cut off is ErrEnd at each place; the field that is cut off is not read, those ahead of it are.
func TestReadCutOff(t *testing.T) {
	ends := []int{0, 4, 36, 68, 72, 76}
	for what, h := range samples() {
		b := written(h)
		for n := range b {
			left := n
			for _, end := range ends {
				if end <= n {
					left = n - end
				}
			}
			expectCutOff(t, what+", cut off", b[:n], left)
		}
	}
	expectCutOff(t, "nil", nil, 0)
}

// P5.1: bytes that are left behind the header are ErrShape for Read, none of Take's concern.
func TestReadWithBytesLeft(t *testing.T) {
	for what, h := range samples() {
		for _, more := range [][]byte{{0}, {1}, {255}, make([]byte, 79), written(h), make([]byte, 3000)} {
			b := append(written(h), more...)
			if got, err := head.Read(b); err != api.ErrShape || got != (api.Head{}) {
				t.Errorf("Read of %s and %d bytes: %v, %v", what, len(more), got, err)
			}
			r := compact.Read(b)
			if got := head.Take(r); got != h || r.Err() != nil || r.Left() != len(more) {
				t.Errorf("Take of %s and %d bytes: %v, %v, %d left", what, len(more), got, r.Err(), r.Left())
			}
			if rest := r.Bytes(len(more)); !bytes.Equal(rest, more) {
				t.Errorf("behind Take of %s: %v, not %v", what, rest, more)
			}
		}
	}
}

// P5.1: headers that stand in a row are taken one by one, each where the Reader stands.
func TestTakeInARow(t *testing.T) {
	row := []api.Head{someHead(), {}, {Nonce: 9}, someHead(), {Version: 1, Prev: someHash(7), Work: 3}}
	b := []byte{1, 2, 3, 4, 7}
	for _, h := range row {
		b = append(b, written(h)...)
	}
	r := compact.Read(append(b, 8, 0, 0))
	if four, num := r.Four(), r.Num(9); four != 0x04030201 || num != 7 {
		t.Errorf("%#x, %d", four, num)
	}
	for i, h := range row {
		left := (len(row)-i-1)*80 + 3
		if got := head.Take(r); got != h || r.Err() != nil || r.Left() != left {
			t.Errorf("number %d: %v, %v, %d left, not %d", i, got, r.Err(), r.Left(), left)
		}
	}
	if got := head.Take(r); got != (api.Head{}) || r.Err() != api.ErrEnd || r.Left() != 3 {
		t.Errorf("behind the last: %v, %v, %d left", got, r.Err(), r.Left())
	}
}

// P5.1: behind an error of its Reader Take answers the zero value, reads nothing, and leaves the first error.
func TestTakeBehindAnError(t *testing.T) {
	whole := written(someHead())
	for _, x := range []struct {
		what string
		b    []byte
		fail func(r *compact.Reader)
		err  error
	}{
		{"ErrEnd", whole, func(r *compact.Reader) { r.Bytes(81) }, api.ErrEnd},
		{"ErrShape", append([]byte{253, 0, 0}, whole...), func(r *compact.Reader) { r.Num(1) }, api.ErrShape},
		{"ErrMany", append([]byte{9}, whole...), func(r *compact.Reader) { r.Num(8) }, api.ErrMany},
		{"Take's own", slices.Concat(whole, whole[:79]), func(r *compact.Reader) { head.Take(r); head.Take(r) }, api.ErrEnd},
	} {
		r := compact.Read(x.b)
		x.fail(r)
		left := r.Left()
		for range 3 {
			if got := head.Take(r); got != (api.Head{}) || r.Err() != x.err || r.Left() != left {
				t.Errorf("behind %s: %v, %v, %d left, not %d", x.what, got, r.Err(), r.Left(), left)
			}
		}
	}
}

// P5.1, P0.4: Read changes nothing of b, and reads nothing behind its length.
func TestReadLeavesWhatIsHandedIn(t *testing.T) {
	memory := append(written(someHead()), written(someHead())...)
	before := slices.Clone(memory)
	if h, err := head.Read(memory[:80]); h != someHead() || err != nil {
		t.Errorf("with others behind its bytes: %v, %v", h, err)
	}
	if h, err := head.Read(memory[:79]); h != (api.Head{}) || err != api.ErrEnd {
		t.Errorf("with its last byte behind the length: %v, %v", h, err)
	}
	if !bytes.Equal(memory, before) {
		t.Error("what was handed in is changed")
	}
}

// P5.1: Check takes a Work from 1 to 2^24; any other is ErrRange.
func TestCheckOfEachWork(t *testing.T) {
	for work, want := range map[uint32]error{
		0:              api.ErrRange,
		1:              nil,
		2:              nil,
		1 << 16:        nil,
		1<<24 - 1:      nil,
		1 << 24:        nil,
		1<<24 + 1:      api.ErrRange,
		1<<24 + 2:      api.ErrRange,
		1 << 25:        api.ErrRange,
		1<<31 - 1:      api.ErrRange,
		1 << 31:        api.ErrRange,
		1<<31 + 1:      api.ErrRange,
		math.MaxUint32: api.ErrRange,
	} {
		for what, h := range samples() {
			h.Work = work
			if err := head.Check(h); err != want {
				t.Errorf("%s, a Work of %d: %v, not %v", what, work, err, want)
			}
		}
	}
}

// P5.1: Check asks for nothing but Work.
func TestCheckOfWorkAlone(t *testing.T) {
	if err := head.Check(api.Head{}); err != api.ErrRange {
		t.Errorf("the zero value: %v", err)
	}
	if err := head.Check(api.Head{Work: 1}); err != nil {
		t.Errorf("a Work alone: %v", err)
	}
	h := greatest()
	h.Work = 1
	if err := head.Check(h); err != nil {
		t.Errorf("the greatest numbers beside a Work of 1: %v", err)
	}
}
