package chain_test

import (
	"bytes"
	"crypto/sha256"
	"encoding/binary"
	"slices"

	"podium/api"
)

// The model follows the definitions literally, with Go's own SHA-256 and its own encoding.

func tagged(tag string, b []byte) api.Digest {
	t := sha256.Sum256([]byte(tag))
	return sha256.Sum256(append(t[:], b...))
}

// unsigned returns the unsigned form of an integer: twice its opposite, less 1, is twice its complement, and 1.
func unsigned(n int) uint64 {
	if n < 0 {
		return uint64(^n)*2 + 1
	}
	return uint64(n) * 2
}

// textOf returns the text that is hashed for a link.
func textOf(x api.Link) []byte {
	b := []byte{3, 4, 1}
	b = append(binary.AppendUvarint(b, unsigned(x.Node)), 1)
	b = append(binary.AppendUvarint(b, unsigned(x.No)), 2, 32)
	b = append(append(b, x.Prev[:]...), 2)
	return append(binary.AppendUvarint(b, uint64(len(x.Data))), x.Data...)
}

func headOf(l []api.Link) api.Digest {
	if len(l) == 0 {
		return tagged("none", nil)
	}
	return tagged("link", textOf(l[len(l)-1]))
}

func isChain(l []api.Link) bool {
	if len(l) > 1024 {
		return false
	}
	for i, x := range l {
		switch {
		case x.Node != l[0].Node, x.Node < 0, x.Node > 23:
			return false
		case x.No != i, x.Prev != headOf(l[:i]), len(x.Data) > 65536:
			return false
		}
	}
	return true
}

func check(l []api.Link) api.Errno {
	switch {
	case len(l) > 1024:
		return api.ErrLimit
	case !isChain(l):
		return api.ErrChain
	}
	return api.OK
}

func add(l []api.Link, node int, data []byte) ([]api.Link, api.Errno) {
	switch {
	case check(l) != api.OK:
		return nil, check(l)
	case node < 0 || node > 23, len(l) > 0 && l[0].Node != node, len(data) > 65536:
		return nil, api.ErrArg
	case len(l) == 1024:
		return nil, api.ErrLimit
	}
	return append(slices.Clone(l), api.Link{Node: node, No: len(l), Prev: headOf(l), Data: data}), api.OK
}

func part(a, b []api.Link) (int, bool, api.Errno) {
	switch {
	case check(a) != api.OK:
		return 0, false, check(a)
	case check(b) != api.OK:
		return 0, false, check(b)
	case len(a) > 0 && len(b) > 0 && a[0].Node != b[0].Node:
		return 0, false, api.ErrChain
	}
	for i := 0; i < len(a) && i < len(b); i++ {
		if !sameLink(a[i], b[i]) {
			return i, true, api.OK
		}
	}
	return 0, false, api.OK
}

func sameLink(x, y api.Link) bool {
	return x.Node == y.Node && x.No == y.No && x.Prev == y.Prev && bytes.Equal(x.Data, y.Data)
}

func sameLinks(a, b []api.Link) bool {
	return slices.EqualFunc(a, b, sameLink)
}
