package compact

import (
	"bytes"

	"sargasso/api"
)

// Reader reads what Put, Four and Eight wrote, and plain bytes. Behind its first error it reads nothing more.
type Reader struct {
	rest []byte // what is not read
	err  error
}

// Read is a Reader of b, from its beginning on; it keeps nothing of b's memory.
func Read(b []byte) *Reader {
	return &Reader{rest: bytes.Clone(b)}
}

// Num reads a number as Put writes it, which is to be at most most.
func (r *Reader) Num(most uint64) uint64 {
	size := 1
	n := number(r.take(1))
	if width := widthBehind(n); width > 0 {
		n = number(r.take(width))
		size += width
	}
	switch {
	case r.err != nil:
		return 0
	case Len(n) != size:
		r.err = api.ErrShape
		return 0
	case n > most:
		r.err = api.ErrMany
		return 0
	}
	return n
}

// Four reads a number of four bytes.
func (r *Reader) Four() uint32 {
	return uint32(number(r.take(4)))
}

// Eight reads a number of eight bytes.
func (r *Reader) Eight() uint64 {
	return number(r.take(8))
}

// Hash reads a digest.
func (r *Reader) Hash() (h api.Hash) {
	copy(h[:], r.take(len(h)))
	return h
}

// Bytes reads n bytes; none where n is below 0.
func (r *Reader) Bytes(n int) []byte {
	return bytes.Clone(r.take(max(n, 0)))
}

// Left is how many bytes are not read.
func (r *Reader) Left() int {
	return len(r.rest)
}

// Err is the first error that was met.
func (r *Reader) Err() error {
	return r.err
}

// take reads the next n bytes, n not below 0; nil where there are fewer, or where an error was met before. They are the Reader's own memory: no caller outside may get them.
func (r *Reader) take(n int) []byte {
	if r.err != nil {
		return nil
	}
	if n > len(r.rest) {
		r.err = api.ErrEnd
		return nil
	}
	taken := r.rest[:n]
	r.rest = r.rest[n:]
	return taken
}

// widthBehind is how many bytes stand behind a first byte.
func widthBehind(first uint64) int {
	switch first {
	case twoBehind:
		return 2
	case fourBehind:
		return 4
	case eightBehind:
		return 8
	}
	return 0
}

// number is what b's bytes are, the lowest first.
func number(b []byte) (n uint64) {
	for i, x := range b {
		n |= uint64(x) << (8 * i)
	}
	return n
}
