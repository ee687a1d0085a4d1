package digest

import (
	"bytes"
	"testing"
)

// P2.1: the last blocks have the rest of the bytes, the byte 80, the least number of bytes 0, and the number of bits in eight bytes, also where it does not fit into 32 bits.
func TestPadded(t *testing.T) {
	for _, x := range []struct {
		n    int
		bits []byte
	}{
		{0, []byte{0, 0, 0, 0, 0, 0, 0, 0}},
		{3, []byte{0, 0, 0, 0, 0, 0, 0, 24}},
		{55, []byte{0, 0, 0, 0, 0, 0, 1, 184}},
		{56, []byte{0, 0, 0, 0, 0, 0, 1, 192}},
		{63, []byte{0, 0, 0, 0, 0, 0, 1, 248}},
		{64, []byte{0, 0, 0, 0, 0, 0, 2, 0}},
		{1<<29 - 1, []byte{0, 0, 0, 0, 255, 255, 255, 248}},
		{1 << 29, []byte{0, 0, 0, 1, 0, 0, 0, 0}},
		{1<<31 - 1, []byte{0, 0, 0, 3, 255, 255, 255, 248}},
		{1<<61 - 1, []byte{255, 255, 255, 255, 255, 255, 255, 248}},
	} {
		rest := bytes.Repeat([]byte{'x'}, x.n%blockSize)
		zeros := 55 - len(rest)
		if zeros < 0 {
			zeros += blockSize
		}
		want := bytes.Join([][]byte{rest, {0x80}, make([]byte, zeros), x.bits}, nil)
		if got := padded(rest, x.n); !bytes.Equal(got, want) {
			t.Error(x.n, got)
		}
	}
}
