package digest_test

import (
	"bytes"
	"crypto/sha256"
	"encoding/hex"
	"slices"
	"strings"
	"testing"

	"sargasso/api"
	"sargasso/digest"
)

// someBytes are n bytes that look like nothing, the same ones every time.
func someBytes(n int) []byte {
	b := make([]byte, n)
	x := uint32(n)
	for i := range b {
		x = x*1664525 + 1013904223
		b[i] = byte(x >> 24)
	}
	return b
}

// P1.1: Sha of texts whose digests are known.
func TestShaOfKnownTexts(t *testing.T) {
	for _, x := range []struct{ in, want string }{
		{"", "e3b0c44298fc1c149afbf4c8996fb92427ae41e4649b934ca495991b7852b855"},
		{"abc", "ba7816bf8f01cfea414140de5dae2223b00361a396177a9cb410ff61f20015ad"},
		{"abcdbcdecdefdefgefghfghighijhijkijkljklmklmnlmnomnopnopq", "248d6a61d20638b8e5c026930c3e6039a33ce45964ff2167f6ecedd419db06c1"},
		{strings.Repeat("a", 1000000), "cdc76e5c9914fb9281a1c7e284d73e67f1809a48a497200e046d39ccc7112cd0"},
	} {
		got := digest.Sha([]byte(x.in))
		if hex.EncodeToString(got[:]) != x.want {
			t.Errorf("Sha of %d bytes is %x", len(x.in), got)
		}
	}
}

// P1.1: Sha of nil is that of no bytes, as the chapter's example tells it.
func TestShaOfNothing(t *testing.T) {
	none := digest.Sha(nil)
	if !bytes.HasPrefix(none[:], []byte{0xe3, 0xb0, 0xc4, 0x42}) {
		t.Errorf("Sha of nil is %x", none)
	}
	if none != digest.Sha([]byte{}) {
		t.Error("nil and the empty list have two digests")
	}
}

// P1.1: each length round the ends of the first blocks, of zeros, of ones and of mixed bytes.
func TestShaOfEachLength(t *testing.T) {
	for n := range 400 {
		for _, b := range [][]byte{make([]byte, n), bytes.Repeat([]byte{0xff}, n), someBytes(n)} {
			if got := digest.Sha(b); got != sha256.Sum256(b) {
				t.Fatalf("Sha of %d bytes is %x", n, got)
			}
		}
	}
}

// P1.1: Twice is Sha of Sha's bytes.
func TestTwice(t *testing.T) {
	for _, x := range []struct{ in, want string }{
		{"", "5df6e0e2761359d30a8275058e299fcc0381534545f55cf43e41983f5d4c9456"},
		{"hello", "9595c9df90075148eb06860365df33584b75bff782a510c6cd4883a419833d50"},
	} {
		got := digest.Twice([]byte(x.in))
		if hex.EncodeToString(got[:]) != x.want {
			t.Errorf("Twice of %q is %x", x.in, got)
		}
	}
	for n := range 130 {
		once := sha256.Sum256(someBytes(n))
		if got := digest.Twice(someBytes(n)); got != sha256.Sum256(once[:]) {
			t.Errorf("Twice of %d bytes is %x", n, got)
		}
	}
}

// P1.1, P0.4: what is handed in, and what lies behind its length, is neither changed nor read.
func TestHandedInStaysAsItIs(t *testing.T) {
	for _, n := range []int{0, 1, 55, 56, 63, 64, 65, 128} {
		memory := someBytes(n + 200)
		before := slices.Clone(memory)
		want := sha256.Sum256(memory[:n])
		wantTwice := sha256.Sum256(want[:])
		var w digest.Writer
		w.Write(memory[:n])
		if digest.Sha(memory[:n]) != want || digest.Twice(memory[:n]) != wantTwice || w.Sum() != want {
			t.Errorf("%d bytes with others behind them: a wrong digest", n)
		}
		if !bytes.Equal(memory, before) {
			t.Errorf("%d bytes: the memory was changed", n)
		}
	}
}

// P1.2: Less holds digests against each other byte by byte, from the first on.
func TestLessAtEachByte(t *testing.T) {
	for at := range 32 {
		var low, high api.Hash
		low[at], high[at] = 0x7f, 0x80
		for behind := at + 1; behind < 32; behind++ {
			low[behind] = 0xff
		}
		if !digest.Less(low, high) {
			t.Errorf("byte %d: the lower one is not less", at)
		}
		if digest.Less(high, low) {
			t.Errorf("byte %d: the higher one is less", at)
		}
	}
}

// P1.2: no digest is less than itself.
func TestLessOfTheSame(t *testing.T) {
	for _, h := range []api.Hash{{}, {1}, {31: 1}, digest.Sha(nil)} {
		if digest.Less(h, h) {
			t.Errorf("%x is less than itself", h)
		}
	}
}

// P1.2: Hex writes two of 0 to 9, a to f for each byte, the first byte first; Short the first 8 of these.
func TestHexAndShort(t *testing.T) {
	for _, h := range []api.Hash{{}, {0xab, 0x0f}, {0x01, 0x23, 0x45, 0x67, 0x89}, {31: 0xfe}, digest.Sha(nil)} {
		want := hex.EncodeToString(h[:])
		if got := digest.Hex(h); got != want {
			t.Errorf("Hex of %x is %q", h, got)
		}
		if got := digest.Short(h); got != want[:8] {
			t.Errorf("Short of %x is %q", h, got)
		}
	}
	for b := range 256 {
		h := api.Hash{3: byte(b), 31: byte(b)}
		if got := digest.Hex(h); got != hex.EncodeToString(h[:]) {
			t.Errorf("Hex of byte %d is %q", b, got)
		}
	}
}
