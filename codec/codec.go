// Package codec encodes values canonically: each value has exactly one encoding. See shared/doc/01-codec.md.
package codec

import (
	"slices"

	"podium/api"
)

// Check validates a value.
func Check(v api.Value) (e api.Errno) {
	if !wellFormed(v) {
		return api.ErrArg
	}
	if depth(v) > api.MaxDepth {
		return api.ErrLimit
	}
	return api.OK
}

// Encode returns the encoding of a value.
func Encode(v api.Value) (b []byte, e api.Errno) {
	n, e := Size(v)
	if e != api.OK {
		return nil, e
	}
	w := writer{out: make([]byte, 0, n), contents: contents()}
	w.value(v)
	return w.out, api.OK
}

// Decode returns the value of an encoding.
func Decode(b []byte) (v api.Value, e api.Errno) {
	defer func() {
		if recover() != nil {
			v, e = api.Value{}, api.ErrCode
		}
	}()
	r := reader{rest: b[:len(b):len(b)]}
	v = r.value(api.MaxDepth)
	require(len(r.rest) == 0)
	return v, api.OK
}

// Size returns the length of the encoding of a value.
func Size(v api.Value) (n int, e api.Errno) {
	if e = Check(v); e != api.OK {
		return 0, e
	}
	return size(v), api.OK
}

// Same reports whether two values are equal.
func Same(a, b api.Value) (same bool) {
	return a.Kind == b.Kind && a.N == b.N && a.S == b.S && slices.EqualFunc(a.L, b.L, Same)
}

func wellFormed(v api.Value) bool {
	switch v.Kind {
	case api.IntV:
		return v.S == "" && len(v.L) == 0
	case api.TextV:
		return v.N == 0 && len(v.L) == 0
	case api.ListV:
		return v.N == 0 && v.S == "" && allWellFormed(v.L)
	}
	return false
}

func allWellFormed(l []api.Value) bool {
	for _, x := range l {
		if !wellFormed(x) {
			return false
		}
	}
	return true
}

func depth(v api.Value) int {
	if v.Kind != api.ListV {
		return 0
	}
	deepest := 0
	for _, x := range v.L {
		deepest = max(deepest, depth(x))
	}
	return 1 + deepest
}

// size needs no case for each kind but the numeral, because a well-formed value has no text and no elements that its kind does not use.
func size(v api.Value) int {
	n := 1 + numeralSize(heading(v)) + len(v.S)
	for _, x := range v.L {
		n += size(x)
	}
	return n
}

// heading returns the number whose numeral follows the kind of a value.
func heading(v api.Value) uint64 {
	switch v.Kind {
	case api.TextV:
		return uint64(len(v.S))
	case api.ListV:
		return uint64(len(v.L))
	}
	return unsigned(v.N)
}

// unsigned negates n + 1 and not n, because the least int has no opposite.
func unsigned(n int) uint64 {
	if n >= 0 {
		return 2 * uint64(n)
	}
	return 2*uint64(-(n+1)) + 1
}

// signed undoes unsigned.
func signed(u uint64) int {
	half := int(u / 2)
	if u%2 == 0 {
		return half
	}
	return -half - 1
}

func numeralSize(u uint64) int {
	n := 1
	for u >= 128 {
		u /= 128
		n++
	}
	return n
}
