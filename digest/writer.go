package digest

import "sargasso/api"

// Writer makes the Sha of bytes that come piece by piece. Its zero value is one.
type Writer struct {
	words [8]uint32       // what the whole blocks came to; set by the first Write
	part  [blockSize]byte // the size%blockSize bytes that no whole block has taken yet
	size  int64
}

// Write adds b to what was written; it does not keep b.
func (w *Writer) Write(b []byte) {
	if w.size == 0 {
		w.words = startWords()
	}
	used := int(w.size % blockSize)
	w.size += int64(len(b))
	if used > 0 {
		taken := copy(w.part[used:], b)
		if used+taken < blockSize {
			return
		}
		mix(&w.words, w.part[:])
		b = b[taken:]
	}
	for len(b) >= blockSize {
		mix(&w.words, b[:blockSize])
		b = b[blockSize:]
	}
	copy(w.part[:], b)
}

// Sum is the Sha of all that was written up to now; more can be written behind it.
func (w *Writer) Sum() api.Hash {
	// The padding goes into a copy, so that w goes on as if nobody had asked.
	padded := *w
	var pad [blockSize]byte
	pad[0] = 0x80
	padded.Write(pad[:padSize(w.size)])
	padded.Write(lengthInBits(w.size))
	return bytesOf(padded.words)
}

// Len is how many bytes were written.
func (w *Writer) Len() int64 {
	return w.size
}

// padSize is how many bytes, 0x80 and the zeros, stand between size bytes and their length, so that a block ends behind it.
func padSize(size int64) int {
	used := int(size % blockSize)
	if used < blockSize-lengthSize {
		return blockSize - lengthSize - used
	}
	return 2*blockSize - lengthSize - used
}

// lengthInBits is size bytes counted in bits, the highest byte first.
func lengthInBits(size int64) []byte {
	bits := uint64(size) * 8
	b := make([]byte, 0, lengthSize)
	for shift := 56; shift >= 0; shift -= 8 {
		b = append(b, byte(bits>>shift))
	}
	return b
}

// bytesOf writes the words down, the highest byte of each first.
func bytesOf(words [8]uint32) (h api.Hash) {
	for i, x := range words {
		h[4*i], h[4*i+1], h[4*i+2], h[4*i+3] = byte(x>>24), byte(x>>16), byte(x>>8), byte(x)
	}
	return h
}
