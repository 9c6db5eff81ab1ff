// Package digest makes digests (SHA-256), orders them and writes them as text.
package digest

import (
	"bytes"

	"sargasso/api"
)

const (
	shortDigits = 8
	hexDigits   = "0123456789abcdef"
)

// Sha is the SHA-256 of b.
func Sha(b []byte) api.Hash {
	var w Writer
	w.Write(b)
	return w.Sum()
}

// Twice is the Sha of the bytes of b's Sha.
func Twice(b []byte) api.Hash {
	once := Sha(b)
	return Sha(once[:])
}

// Less tells whether a stands ahead of b, held against each other byte by byte from the first on.
func Less(a, b api.Hash) bool {
	return bytes.Compare(a[:], b[:]) < 0
}

// Hex is h as 64 digits, two a byte, the first byte first.
func Hex(h api.Hash) string {
	digits := make([]byte, 0, 2*len(h))
	for _, b := range h {
		digits = append(digits, hexDigits[b>>4], hexDigits[b&15])
	}
	return string(digits)
}

// Short is the first eight digits of Hex.
func Short(h api.Hash) string {
	return Hex(h)[:shortDigits]
}
