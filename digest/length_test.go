package digest

import (
	"bytes"
	"testing"
)

// P1.1: the length is told in bits, in eight bytes, the highest first, also where the bits are more than 32 bits count.
func TestLengthInBits(t *testing.T) {
	for _, x := range []struct {
		size int64
		want []byte
	}{
		{0, []byte{0, 0, 0, 0, 0, 0, 0, 0}},
		{1, []byte{0, 0, 0, 0, 0, 0, 0, 8}},
		{32, []byte{0, 0, 0, 0, 0, 0, 1, 0}},
		{1<<29 - 1, []byte{0, 0, 0, 0, 0xff, 0xff, 0xff, 0xf8}},
		{1 << 29, []byte{0, 0, 0, 1, 0, 0, 0, 0}},
		{1<<31 - 1, []byte{0, 0, 0, 3, 0xff, 0xff, 0xff, 0xf8}},
	} {
		if got := lengthInBits(x.size); !bytes.Equal(got, x.want) {
			t.Errorf("%d bytes: %v", x.size, got)
		}
	}
}
