package spend_test

import (
	"bytes"
	"crypto/sha256"
	"encoding/hex"
	"math"
	"slices"
	"testing"

	"sargasso/api"
	"sargasso/digest"
	"sargasso/spend"
)

// someKey is a key of n bytes, no two beside each other the same.
func someKey(n int) []byte {
	key := make([]byte, n)
	for i := range key {
		key[i] = byte(7*i + n + 1)
	}
	return key
}

// lengths are those of keys that open: none, some, the most that may be, and those beside the ends of a digest's blocks.
func lengths() []int {
	return []int{0, 1, 2, 4, 31, 32, 33, 55, 56, 63, 64, 65, api.MaxKey - 1, api.MaxKey}
}

// tooLong are lengths of keys that open nothing.
func tooLong() []int {
	return []int{api.MaxKey + 1, api.MaxKey + 2, 128, 255, 256, 256 + api.MaxKey, 1 << 16, 1<<16 + 1}
}

// P3.1: Lock of keys whose digests are known.
func TestLockOfKnownKeys(t *testing.T) {
	for _, x := range []struct{ key, want string }{
		{"", "e3b0c44298fc1c149afbf4c8996fb92427ae41e4649b934ca495991b7852b855"},
		{"abc", "ba7816bf8f01cfea414140de5dae2223b00361a396177a9cb410ff61f20015ad"},
	} {
		got := spend.Lock([]byte(x.key))
		if hex.EncodeToString(got[:]) != x.want {
			t.Errorf("Lock of %q is %x", x.key, got)
		}
	}
}

// P3.1: Lock is digest.Sha of a key of any length, one that opens nothing too.
func TestLockIsSha(t *testing.T) {
	for _, n := range append(lengths(), tooLong()...) {
		key := someKey(n)
		if got := spend.Lock(key); got != sha256.Sum256(key) || got != digest.Sha(key) {
			t.Errorf("Lock of %d bytes is %x", n, got)
		}
	}
	if spend.Lock(nil) != spend.Lock([]byte{}) {
		t.Error("nil and the empty key have two locks")
	}
}

// P3.1: a key opens its own Lock, from the one of no bytes to one of MaxKey bytes.
func TestOpensItsLock(t *testing.T) {
	for _, n := range lengths() {
		if key := someKey(n); !spend.Opens(key, spend.Lock(key)) {
			t.Errorf("a key of %d bytes does not open its Lock", n)
		}
	}
	for _, key := range [][]byte{nil, {}} {
		if !spend.Opens(key, sha256.Sum256(nil)) {
			t.Error("the key of no bytes does not open its Lock")
		}
	}
}

// P3.1: a key of more than MaxKey bytes opens nothing, not even its own Lock, nor the one of its first MaxKey bytes.
func TestLongKeysOpenNothing(t *testing.T) {
	for _, n := range tooLong() {
		key := someKey(n)
		for _, lock := range []api.Hash{spend.Lock(key), spend.Lock(key[:api.MaxKey]), spend.Lock(nil), {}} {
			if spend.Opens(key, lock) {
				t.Errorf("a key of %d bytes opens %x", n, lock)
			}
		}
	}
}

// P3.1: a key with any of its bytes turned does not open the lock.
func TestTurnedKeysOpenNothing(t *testing.T) {
	for _, n := range lengths() {
		key := someKey(n)
		lock := spend.Lock(key)
		for at := range key {
			for _, turn := range []byte{0x01, 0x80, 0xff} {
				turned := slices.Clone(key)
				turned[at] ^= turn
				if spend.Opens(turned, lock) {
					t.Errorf("a key of %d bytes opens with byte %d turned by %#x", n, at, turn)
				}
			}
		}
	}
}

// P3.1: a key does not open a lock with any of its bytes turned.
func TestTurnedLocksStayShut(t *testing.T) {
	for _, n := range lengths() {
		key := someKey(n)
		for at := range len(api.Hash{}) {
			for _, turn := range []byte{0x01, 0x80, 0xff} {
				lock := spend.Lock(key)
				lock[at] ^= turn
				if spend.Opens(key, lock) {
					t.Errorf("a key of %d bytes opens a lock with byte %d turned by %#x", n, at, turn)
				}
			}
		}
	}
}

// P3.1: keys that are part of one another, the empty one too, open their own locks alone.
func TestOtherKeysOpenNothing(t *testing.T) {
	longest := someKey(api.MaxKey)
	for has := range api.MaxKey + 1 {
		lock := spend.Lock(longest[:has])
		for n := range api.MaxKey + 1 {
			if spend.Opens(longest[:n], lock) != (n == has) {
				t.Errorf("the first %d bytes, and the lock of the first %d", n, has)
			}
		}
	}
}

// P3.1: what looks like a lock of a key, but is another thing, is not opened.
func TestWrongLocks(t *testing.T) {
	for _, n := range lengths() {
		key := someKey(n)
		var itself api.Hash
		copy(itself[:], key)
		backward := spend.Lock(key)
		slices.Reverse(backward[:])
		for _, lock := range []api.Hash{{}, itself, digest.Twice(key), backward} {
			if spend.Opens(key, lock) {
				t.Errorf("a key of %d bytes opens %x", n, lock)
			}
		}
	}
}

// P3.1, P0.4: Lock and Opens change nothing of a key, and read nothing behind its length.
func TestKeysStayAsTheyAre(t *testing.T) {
	for _, n := range append(lengths(), tooLong()...) {
		memory := someKey(n + 100)
		before := slices.Clone(memory)
		want := sha256.Sum256(memory[:n])
		if got := spend.Lock(memory[:n]); got != want {
			t.Errorf("Lock of %d bytes with others behind them: %x", n, got)
		}
		if spend.Opens(memory[:n], want) != (n <= api.MaxKey) {
			t.Errorf("Opens of %d bytes with others behind them", n)
		}
		if !bytes.Equal(memory, before) {
			t.Errorf("%d bytes: the memory was changed", n)
		}
	}
}

// P3.1, P0.4, P0.5: nothing of a key is kept: its lock stays when it is written over, and it opens no more.
func TestKeysAreNotKept(t *testing.T) {
	for _, n := range []int{1, 32, 64, api.MaxKey} {
		key := someKey(n)
		want := sha256.Sum256(key)
		lock := spend.Lock(key)
		if !spend.Opens(key, lock) {
			t.Errorf("a key of %d bytes does not open its Lock", n)
		}
		key[n-1]++
		if lock != want {
			t.Errorf("%d bytes: the lock goes with the key", n)
		}
		if spend.Opens(key, lock) || spend.Lock(key) == lock {
			t.Errorf("%d bytes: a key that is written over is still taken for the one that it was", n)
		}
		key[n-1]--
		if !spend.Opens(key, lock) || spend.Lock(key) != lock {
			t.Errorf("%d bytes: a key that is what it was does not open", n)
		}
	}
}

// P3.1: Null is of no transaction, 32 bytes of 0, and its N is the greatest.
func TestNull(t *testing.T) {
	p := spend.Null()
	if p.Tx != (api.Hash{}) || p.N != 0xffffffff {
		t.Errorf("Null is %v", p)
	}
	if !spend.IsNull(p) || !spend.IsNull(api.Point{N: 0xffffffff}) {
		t.Error("Null is not null")
	}
}

// P3.1, P0.5: what is done with one Null no other one shows.
func TestNullsApart(t *testing.T) {
	p := spend.Null()
	p.Tx[0], p.N = 1, 0
	if q := spend.Null(); q.Tx != (api.Hash{}) || q.N != 0xffffffff || !spend.IsNull(q) || spend.IsNull(p) {
		t.Errorf("behind a change of one Null the next is %v", q)
	}
}

// P3.1: Null with any bit of its Tx turned is not null.
func TestNullWithTxTurned(t *testing.T) {
	for at := range len(api.Hash{}) {
		for bit := range 8 {
			p := spend.Null()
			p.Tx[at] ^= 1 << bit
			if spend.IsNull(p) {
				t.Errorf("byte %d, bit %d turned: null", at, bit)
			}
		}
	}
}

// P3.1: Null with any bit of its N turned is not null.
func TestNullWithNTurned(t *testing.T) {
	for bit := range 32 {
		p := spend.Null()
		p.N ^= 1 << bit
		if spend.IsNull(p) {
			t.Errorf("bit %d turned: null", bit)
		}
	}
}

// P3.1: places that are null in a part only are not null.
func TestNotNull(t *testing.T) {
	for _, p := range []api.Point{
		{},
		{N: 1},
		{N: math.MaxInt32},
		{Tx: digest.Sha(nil)},
		{Tx: digest.Sha(nil), N: 0xffffffff},
		{Tx: api.Hash(bytes.Repeat([]byte{0xff}, 32)), N: 0xffffffff},
	} {
		if spend.IsNull(p) {
			t.Errorf("%v is null", p)
		}
	}
}

// expectAhead asks that low stands ahead of high, and high not ahead of low.
func expectAhead(t *testing.T, what string, low, high api.Point) {
	t.Helper()
	if !spend.Less(low, high) {
		t.Errorf("%s: %v is not less than %v", what, low, high)
	}
	if spend.Less(high, low) {
		t.Errorf("%s: %v is less than %v", what, high, low)
	}
}

// P3.1: places of unlike Tx stand by the first byte that is unlike, whatever the bytes behind it and N say.
func TestLessByTx(t *testing.T) {
	for at := range len(api.Hash{}) {
		for _, x := range []struct{ low, high byte }{{0, 1}, {0x7f, 0x80}, {0xfe, 0xff}, {0, 0xff}} {
			var low, high api.Hash
			for i := range at {
				low[i], high[i] = byte(i), byte(i)
			}
			low[at], high[at] = x.low, x.high
			for i := at + 1; i < len(low); i++ {
				low[i] = 0xff
			}
			for _, n := range []struct{ low, high uint32 }{{0, 0}, {0xffffffff, 0}, {0, 0xffffffff}, {6, 5}} {
				expectAhead(t, "unlike Tx", api.Point{Tx: low, N: n.low}, api.Point{Tx: high, N: n.high})
			}
		}
	}
}

// P3.1: places of one Tx stand by N, as a number without a sign.
func TestLessByN(t *testing.T) {
	rising := []uint32{0, 1, 2, 254, 255, 256, 257, 65535, 65536, 1 << 24, math.MaxInt32, 1 << 31, 1<<31 + 1, math.MaxUint32 - 1, math.MaxUint32}
	for _, tx := range []api.Hash{{}, {1}, {31: 1}, digest.Sha(nil), api.Hash(bytes.Repeat([]byte{0xff}, 32))} {
		for i, low := range rising {
			for _, high := range rising[i+1:] {
				expectAhead(t, "one Tx", api.Point{Tx: tx, N: low}, api.Point{Tx: tx, N: high})
			}
		}
	}
}

// P3.1: no place is less than itself.
func TestLessOfTheSame(t *testing.T) {
	for _, p := range []api.Point{{}, {N: 1}, {Tx: api.Hash{1}}, {Tx: api.Hash{31: 1}, N: 7}, {Tx: digest.Sha(nil), N: math.MaxUint32}, spend.Null()} {
		if spend.Less(p, p) {
			t.Errorf("%v is less than itself", p)
		}
	}
}

// P3.1: Null stands behind each other place of its Tx, and ahead of each of another Tx.
func TestLessOfNull(t *testing.T) {
	expectAhead(t, "within no transaction", api.Point{N: math.MaxUint32 - 1}, spend.Null())
	expectAhead(t, "within no transaction", api.Point{}, spend.Null())
	expectAhead(t, "before the least Tx", spend.Null(), api.Point{Tx: api.Hash{31: 1}})
}

// P3.1: places in any order stand, sorted by Less, by Tx and then N.
func TestLessSorts(t *testing.T) {
	sorted := []api.Point{
		{N: 0},
		{N: 9},
		spend.Null(),
		{Tx: api.Hash{31: 1}, N: 3},
		{Tx: api.Hash{31: 2}, N: 1},
		{Tx: api.Hash{30: 1}, N: 2},
		{Tx: api.Hash{1}, N: 255},
		{Tx: api.Hash{1}, N: 256},
		{Tx: api.Hash{1, 1}},
		{Tx: api.Hash{2}},
	}
	for turn := range sorted {
		l := append(slices.Clone(sorted[turn:]), sorted[:turn]...)
		slices.Reverse(l)
		slices.SortFunc(l, func(a, b api.Point) int {
			switch {
			case spend.Less(a, b):
				return -1
			case spend.Less(b, a):
				return 1
			}
			return 0
		})
		if !slices.Equal(l, sorted) {
			t.Errorf("turned by %d: %v", turn, l)
		}
	}
}
