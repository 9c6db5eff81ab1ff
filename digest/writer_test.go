package digest_test

import (
	"bytes"
	"crypto/sha256"
	"testing"

	"sargasso/digest"
)

// P1.3: the zero value is a Writer to which nothing was written.
func TestWriterZeroValue(t *testing.T) {
	var w digest.Writer
	if w.Len() != 0 || w.Sum() != digest.Sha(nil) {
		t.Errorf("the zero value: Len %d, Sum %x", w.Len(), w.Sum())
	}
	w.Write(nil)
	w.Write([]byte{})
	if w.Len() != 0 || w.Sum() != digest.Sha(nil) {
		t.Errorf("behind empty writes: Len %d, Sum %x", w.Len(), w.Sum())
	}
}

// P1.3: however the bytes are cut in two, Sum is Sha of all of them, and Len how many.
func TestWriterCutInTwo(t *testing.T) {
	for _, n := range []int{1, 55, 56, 57, 63, 64, 65, 119, 120, 127, 128, 129, 200} {
		all := someBytes(n)
		want := sha256.Sum256(all)
		for at := range n + 1 {
			var w digest.Writer
			w.Write(all[:at])
			w.Write(all[at:])
			if w.Sum() != want || w.Len() != int64(n) {
				t.Errorf("%d bytes cut at %d: Len %d, Sum %x", n, at, w.Len(), w.Sum())
			}
		}
	}
}

// P1.3: pieces of each size, with a Sum after each piece, behind which the Writer goes on.
func TestWriterGoesOnBehindSum(t *testing.T) {
	all := someBytes(330)
	for piece := 1; piece <= 140; piece++ {
		var w digest.Writer
		for at := 0; at < len(all); at += piece {
			end := min(at+piece, len(all))
			w.Write(all[at:end])
			if first, again := w.Sum(), w.Sum(); first != sha256.Sum256(all[:end]) || again != first {
				t.Fatalf("pieces of %d, up to %d: Sum %x, then %x", piece, end, first, again)
			}
			if w.Len() != int64(end) {
				t.Fatalf("pieces of %d, up to %d: Len %d", piece, end, w.Len())
			}
		}
	}
}

// P1.3: a Sum ahead of the first Write leaves the Writer as it was.
func TestWriterSumBeforeWrite(t *testing.T) {
	var w digest.Writer
	w.Sum()
	w.Write([]byte("abc"))
	if w.Sum() != digest.Sha([]byte("abc")) || w.Len() != 3 {
		t.Errorf("Len %d, Sum %x", w.Len(), w.Sum())
	}
}

// P1.3, P0.4: a Writer keeps nothing of the memory that it was handed.
func TestWriterKeepsNothing(t *testing.T) {
	for _, n := range []int{3, 63, 64, 65, 130} {
		b := someBytes(n)
		want := sha256.Sum256(b)
		var w digest.Writer
		w.Write(b)
		clear(b)
		if w.Sum() != want {
			t.Errorf("%d bytes, cleared behind Write: Sum %x", n, w.Sum())
		}
	}
}

// P1.3, P0.5: two Writers know nothing of each other.
func TestWritersApart(t *testing.T) {
	var a, b digest.Writer
	for _, x := range someBytes(150) {
		a.Write([]byte{x})
		b.Write([]byte{x, x})
	}
	var doubled []byte
	for _, x := range someBytes(150) {
		doubled = append(doubled, x, x)
	}
	if a.Sum() != sha256.Sum256(someBytes(150)) || b.Sum() != sha256.Sum256(doubled) || a.Len() != 150 || b.Len() != 300 {
		t.Errorf("Len %d and %d, Sum %x and %x", a.Len(), b.Len(), a.Sum(), b.Sum())
	}
}

// P1.3: great pieces that end beside the end of a block.
func TestWriterLong(t *testing.T) {
	piece := someBytes(1 << 20)[1:]
	var w digest.Writer
	want := sha256.New()
	for range 5 {
		w.Write(piece)
		want.Write(piece)
	}
	if got := w.Sum(); !bytes.Equal(got[:], want.Sum(nil)) || w.Len() != 5*(1<<20-1) {
		t.Errorf("Len %d, Sum %x", w.Len(), got)
	}
}
