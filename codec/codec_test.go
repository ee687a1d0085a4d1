package codec_test

import (
	"bytes"
	"math"
	"math/big"
	"strings"
	"testing"

	"podium/api"
	"podium/codec"
)

func num(n int) api.Value { return api.Value{Kind: api.IntV, N: n} }

func text(s string) api.Value { return api.Value{Kind: api.TextV, S: s} }

func list(l ...api.Value) api.Value { return api.Value{Kind: api.ListV, L: l} }

// nested returns n lists, one within the other.
func nested(n int) api.Value {
	v := list()
	for range n - 1 {
		v = list(v)
	}
	return v
}

// join puts bytes together.
func join(parts ...[]byte) []byte { return bytes.Join(parts, nil) }

// nines are nine digits 127 of a numeral that goes on.
var nines = bytes.Repeat([]byte{255}, 9)

// examples are values and their encodings, by hand.
var examples = []struct {
	v    api.Value
	want []byte
}{
	{num(0), []byte{1, 0}},
	{num(-1), []byte{1, 1}},
	{num(1), []byte{1, 2}},
	{num(-3), []byte{1, 5}},
	{num(63), []byte{1, 126}},
	{num(-64), []byte{1, 127}},
	{num(64), []byte{1, 128, 1}},
	{num(-65), []byte{1, 129, 1}},
	{num(100), []byte{1, 200, 1}},
	{num(8191), []byte{1, 254, 127}},
	{num(-8192), []byte{1, 255, 127}},
	{num(8192), []byte{1, 128, 128, 1}},
	{num(api.MaxNum), []byte{1, 128, 128, 128, 128, 128, 64}},
	{num(math.MaxInt), join([]byte{1, 254}, nines[1:], []byte{1})},
	{num(math.MinInt), join([]byte{1}, nines, []byte{1})},
	{text(""), []byte{2, 0}},
	{text("ab"), []byte{2, 2, 97, 98}},
	{text("\x00"), []byte{2, 1, 0}},
	{text("\xff\xfe"), []byte{2, 2, 255, 254}},
	{text("é"), []byte{2, 2, 195, 169}},
	{text(strings.Repeat("x", 127)), join([]byte{2, 127}, bytes.Repeat([]byte{'x'}, 127))},
	{text(strings.Repeat("x", 128)), join([]byte{2, 128, 1}, bytes.Repeat([]byte{'x'}, 128))},
	{text(strings.Repeat("x", 20000)), join([]byte{2, 160, 156, 1}, bytes.Repeat([]byte{'x'}, 20000))},
	{list(), []byte{3, 0}},
	{api.Value{Kind: api.ListV, L: []api.Value{}}, []byte{3, 0}},
	{list(num(100), text("ab")), []byte{3, 2, 1, 200, 1, 2, 2, 97, 98}},
	{list(list(), list(num(0)), text("")), []byte{3, 3, 3, 0, 3, 1, 1, 0, 2, 0}},
	{list(zeros(128)...), join([]byte{3, 128, 1}, bytes.Repeat([]byte{1, 0}, 128))},
	{nested(16), join(bytes.Repeat([]byte{3, 1}, 15), []byte{3, 0})},
	{list(nested(15), num(0), nested(15)), join([]byte{3, 3}, bytes.Repeat([]byte{3, 1}, 14), []byte{3, 0, 1, 0}, bytes.Repeat([]byte{3, 1}, 14), []byte{3, 0})},
}

func zeros(n int) []api.Value {
	l := make([]api.Value, n)
	for i := range l {
		l[i] = num(0)
	}
	return l
}

// P1.1: the encodings of values that are well-formed and not too deep, and their sizes.
func TestEncode(t *testing.T) {
	for i, x := range examples {
		if e := codec.Check(x.v); e != api.OK {
			t.Error(i, "Check", e)
		}
		if b, e := codec.Encode(x.v); e != api.OK || !bytes.Equal(b, x.want) {
			t.Error(i, "Encode", b, e)
		}
		if n, e := codec.Size(x.v); e != api.OK || n != len(x.want) {
			t.Error(i, "Size", n, e)
		}
	}
}

// P1.1: values that are not well-formed, or too deep; the first of these comes before the second.
func TestEncodeRefuses(t *testing.T) {
	one := []api.Value{num(1)}
	for i, x := range []struct {
		v    api.Value
		want api.Errno
	}{
		{api.Value{}, api.ErrArg},
		{api.Value{Kind: 4}, api.ErrArg},
		{api.Value{Kind: -1}, api.ErrArg},
		{api.Value{Kind: 257}, api.ErrArg},
		{api.Value{Kind: math.MinInt}, api.ErrArg},
		{api.Value{Kind: math.MaxInt}, api.ErrArg},
		{api.Value{Kind: api.IntV, N: 1, S: "a"}, api.ErrArg},
		{api.Value{Kind: api.IntV, N: 1, L: one}, api.ErrArg},
		{api.Value{Kind: api.TextV, S: "a", N: 1}, api.ErrArg},
		{api.Value{Kind: api.TextV, S: "a", L: one}, api.ErrArg},
		{api.Value{Kind: api.ListV, L: one, N: -1}, api.ErrArg},
		{api.Value{Kind: api.ListV, L: one, S: "a"}, api.ErrArg},
		{list(api.Value{}), api.ErrArg},
		{list(num(1), list(text("a"), api.Value{Kind: 4}), num(2)), api.ErrArg},
		{list(num(1), num(2), api.Value{Kind: api.TextV, N: 1}), api.ErrArg},
		{nested(17), api.ErrLimit},
		{list(num(0), nested(16), num(0)), api.ErrLimit},
		{nested(1 << 16), api.ErrLimit},
		{list(nested(16), api.Value{}), api.ErrArg},
		{list(api.Value{}, nested(16)), api.ErrArg},
	} {
		if e := codec.Check(x.v); e != x.want {
			t.Error(i, "Check", e)
		}
		if b, e := codec.Encode(x.v); e != x.want || len(b) > 0 {
			t.Error(i, "Encode", b, e)
		}
		if n, e := codec.Size(x.v); e != x.want || n != 0 {
			t.Error(i, "Size", n, e)
		}
	}
	for i, v := range []api.Value{
		{Kind: api.IntV, L: []api.Value{}},
		{Kind: api.TextV, L: []api.Value{}},
		{Kind: api.ListV, L: []api.Value{}},
	} {
		if e := codec.Check(v); e != api.OK {
			t.Error(i, "an empty slice is no element", e)
		}
	}
}

// P1.2: bytes that are encodings.
func TestDecode(t *testing.T) {
	for i, x := range examples {
		if v, e := codec.Decode(x.want); e != api.OK || !codec.Same(v, x.v) {
			t.Error(i, v, e)
		}
	}
}

// P1.2: bytes that are no encodings.
func TestDecodeRefuses(t *testing.T) {
	for i, b := range [][]byte{
		nil,
		{},
		{0},
		{0, 0},
		{4, 0},
		{255},
		{1},
		{1, 128},
		{1, 128, 0},
		{1, 5, 0},
		{1, 129, 128, 0},
		join([]byte{1}, nines),
		join([]byte{1}, nines, []byte{0}),
		join([]byte{1}, nines, []byte{2}),
		join([]byte{1}, nines, []byte{127}),
		join([]byte{1}, nines, []byte{128}),
		join([]byte{1}, nines, []byte{129}),
		join([]byte{1}, nines, []byte{129, 0}),
		join([]byte{1}, nines, []byte{129, 1}),
		join([]byte{1}, bytes.Repeat([]byte{255}, 1000)),
		{2},
		{2, 1},
		{2, 3, 97},
		{2, 2, 97},
		{2, 0, 0},
		{2, 1, 97, 97},
		{2, 128, 0},
		{2, 129, 0, 97},
		join([]byte{2}, nines, []byte{1}),
		join([]byte{2}, nines, []byte{1, 97}),
		join([]byte{2}, bytes.Repeat([]byte{128}, 9), []byte{1}),
		{3},
		{3, 1},
		{3, 1, 1},
		{3, 1, 5},
		{3, 1, 0, 0},
		{3, 2, 1, 0},
		{3, 0, 3, 0},
		{3, 0, 0},
		{3, 128, 0},
		{3, 1, 1, 128, 0},
		{3, 2, 2, 3, 97, 1, 0},
		join([]byte{3}, nines, []byte{1}),
		join([]byte{3}, nines, []byte{1, 1, 0}),
		join(bytes.Repeat([]byte{3, 1}, 16), []byte{3, 0}),
		join([]byte{3, 2, 1, 0}, bytes.Repeat([]byte{3, 1}, 15), []byte{3, 0}),
		bytes.Repeat([]byte{3, 1}, 1<<16),
	} {
		if v, e := codec.Decode(b); e != api.ErrCode || !codec.Same(v, api.Value{}) {
			t.Error(i, v, e)
		}
	}
}

// P1.2: each beginning of an encoding, and each encoding with more bytes, is none.
func TestDecodeWholeOnly(t *testing.T) {
	for i, x := range examples {
		for n := range x.want {
			if v, e := codec.Decode(x.want[:n]); e != api.ErrCode || !codec.Same(v, api.Value{}) {
				t.Error(i, n, v, e)
			}
		}
		for _, more := range []byte{0, 1, 128, 255} {
			if v, e := codec.Decode(join(x.want, []byte{more})); e != api.ErrCode || !codec.Same(v, api.Value{}) {
				t.Error(i, more, v, e)
			}
		}
	}
}

// P1.3: values are the same if all their fields are, well-formed or not.
func TestSame(t *testing.T) {
	one := []api.Value{num(1)}
	different := []api.Value{
		{},
		{Kind: 4},
		{Kind: -1, N: 1},
		{Kind: -1, S: "a"},
		{Kind: -1, L: one},
		{N: 1},
		{S: "a"},
		{L: one},
		num(0),
		num(1),
		num(-1),
		num(math.MaxInt),
		num(math.MinInt),
		{Kind: api.IntV, S: "a"},
		{Kind: api.IntV, L: one},
		text(""),
		text("a"),
		text("b"),
		text("ab"),
		{Kind: api.TextV, N: 1},
		{Kind: api.TextV, L: one},
		list(),
		list(num(0)),
		list(num(1)),
		list(num(1), num(1)),
		list(num(1), num(0)),
		list(num(0), num(1)),
		list(list(num(1))),
		list(list(num(0))),
		list(list(num(1)), list()),
		list(api.Value{}),
		{Kind: api.ListV, N: 1},
		{Kind: api.ListV, S: "a"},
		nested(16),
		nested(17),
		nested(1 << 16),
		nested(1<<16 - 1),
	}
	for i, x := range different {
		for k, y := range different {
			if codec.Same(x, y) != (i == k) {
				t.Error(i, k)
			}
		}
	}
	empty := []api.Value{}
	for kind := range 5 {
		if !codec.Same(api.Value{Kind: kind}, api.Value{Kind: kind, L: empty}) || !codec.Same(api.Value{Kind: kind, L: empty}, api.Value{Kind: kind}) {
			t.Error("nil and empty", kind)
		}
	}
	if !codec.Same(list(api.Value{L: empty}, list()), list(api.Value{}, api.Value{Kind: api.ListV, L: empty})) {
		t.Error("nil and empty within lists")
	}
	if !codec.Same(nested(1<<16), nested(1<<16)) {
		t.Error("equal values in other memory")
	}
}

// numeralOf follows the definition of a numeral with big integers.
func numeralOf(u *big.Int) []byte {
	var b []byte
	base, rest, digit := big.NewInt(128), new(big.Int).Set(u), new(big.Int)
	for {
		rest.DivMod(rest, base, digit)
		b = append(b, byte(digit.Int64()))
		if rest.Sign() == 0 {
			return b
		}
		b[len(b)-1] += 128
	}
}

// encodingOf follows the table of the chapter with big integers.
func encodingOf(v api.Value) []byte {
	switch v.Kind {
	case api.IntV:
		u := new(big.Int).Mul(big.NewInt(2), big.NewInt(int64(v.N)))
		if v.N < 0 {
			u.Neg(u).Sub(u, big.NewInt(1))
		}
		return join([]byte{1}, numeralOf(u))
	case api.TextV:
		return join([]byte{2}, numeralOf(big.NewInt(int64(len(v.S)))), []byte(v.S))
	}
	b := join([]byte{3}, numeralOf(big.NewInt(int64(len(v.L)))))
	for _, x := range v.L {
		b = join(b, encodingOf(x))
	}
	return b
}

// samples returns different values: integers around the powers of 2, short texts, and lists of these.
func samples() []api.Value {
	var l []api.Value
	for shift := range 64 {
		for d := -2; d <= 2; d++ {
			l = append(l, num(1<<shift+d), num(-(1<<shift)+d))
		}
	}
	for _, s := range []string{"", "\x00", "\x01", "a", "\x01\x00", "ab", "ba", "\x03\x00", "\x80", "\xff"} {
		l = append(l, text(s))
	}
	l = distinct(l)
	small := []api.Value{num(0), num(-1), num(64), text(""), text("a"), text("\x01\x00"), list(), list(num(0)), list(text("a"))}
	for _, x := range small {
		l = append(l, list(x))
		for _, y := range small {
			l = append(l, list(x, y), list(x, list(y)))
			for _, z := range small {
				l = append(l, list(x, y, z), list(list(x, y), z))
			}
		}
	}
	return distinct(append(l, list()))
}

func distinct(l []api.Value) []api.Value {
	var kept []api.Value
	for _, x := range l {
		if !contains(kept, x) {
			kept = append(kept, x)
		}
	}
	return kept
}

func contains(l []api.Value, v api.Value) bool {
	for _, x := range l {
		if codec.Same(x, v) {
			return true
		}
	}
	return false
}

// P1.1: the encodings of many values are those of the definition.
func TestEncodeByDefinition(t *testing.T) {
	for _, v := range samples() {
		want := encodingOf(v)
		b, e := codec.Encode(v)
		n, f := codec.Size(v)
		if e != api.OK || !bytes.Equal(b, want) || f != api.OK || n != len(want) {
			t.Error(v, b, e, n, f)
		}
	}
}

// P1.4: Decode of Encode is the value itself.
func TestDecodeOfEncode(t *testing.T) {
	for _, v := range samples() {
		b, e := codec.Encode(v)
		x, f := codec.Decode(b)
		if e != api.OK || f != api.OK || !codec.Same(x, v) {
			t.Error(v, e, x, f)
		}
	}
}

// P1.4: Encode of Decode are the bytes. All lists of at most six of these bytes are tried.
func TestEncodeOfDecode(t *testing.T) {
	alphabet := []byte{0, 1, 2, 3, 4, 127, 128, 129, 255}
	accepted := 0
	var extend func(b []byte)
	extend = func(b []byte) {
		v, e := codec.Decode(b)
		if e == api.OK {
			accepted++
			if back, f := codec.Encode(v); f != api.OK || !bytes.Equal(back, b) {
				t.Error(b, v, back, f)
			}
		} else if e != api.ErrCode || !codec.Same(v, api.Value{}) {
			t.Error(b, v, e)
		}
		if len(b) == 6 {
			return
		}
		for _, x := range alphabet {
			extend(append(b[:len(b):len(b)], x))
		}
	}
	extend(nil)
	if accepted != encodingsUpTo(6) {
		t.Error(accepted, encodingsUpTo(6))
	}
}

// encodingsUpTo counts the encodings of at most n bytes that consist of 0, 1, 2, 3, 4, 127, 128, 129 and 255; n is too small for a text of 127 bytes, and for a depth over 16.
func encodingsUpTo(n int) int {
	many := make([]int, n+1)
	sum := 0
	for size := 2; size <= n; size++ {
		many[size] = numerals(size - 1)
		if size <= 2+4 {
			many[size] += pow(9, size-2)
		}
		for k := range 5 {
			many[size] += sequences(many, k, size-2)
		}
		sum += many[size]
	}
	return sum
}

// numerals counts the numerals of n bytes: three of the bytes are digits that go on, six are last ones, and one of these is 0.
func numerals(n int) int {
	if n == 1 {
		return 6
	}
	return pow(3, n-1) * 5
}

func pow(base, n int) int {
	x := 1
	for range n {
		x *= base
	}
	return x
}

// sequences counts the lists of k encodings with n bytes together; many[i] encodings have i bytes.
func sequences(many []int, k, n int) int {
	if k == 0 {
		if n == 0 {
			return 1
		}
		return 0
	}
	sum := 0
	for first := 2; first <= n; first++ {
		sum += many[first] * sequences(many, k-1, n-first)
	}
	return sum
}

// P1.4: different values have different encodings, and no encoding is the beginning of another one.
func TestNoBeginnings(t *testing.T) {
	l := samples()
	encodings := make([][]byte, len(l))
	for i, v := range l {
		encodings[i], _ = codec.Encode(v)
	}
	for i, a := range encodings {
		for k, b := range encodings {
			if i != k && bytes.HasPrefix(b, a) {
				t.Error(l[i], l[k], a, b)
			}
		}
	}
}

// P1.4: the size of a list is that of the list of as many zero integers, without these, plus those of its elements.
func TestSizeOfList(t *testing.T) {
	l := samples()
	for _, n := range []int{0, 1, 2, 127, 128, 129, len(l)} {
		size, e := codec.Size(list(l[:n]...))
		want, f := codec.Size(list(zeros(n)...))
		want -= 2 * n
		for _, v := range l[:n] {
			more, _ := codec.Size(v)
			want += more
		}
		if e != api.OK || f != api.OK || size != want {
			t.Error(n, size, e, want, f)
		}
	}
}

// P1.1, P1.2: values with many elements, and with long texts.
func TestLarge(t *testing.T) {
	v := list(list(zeros(1<<20)...), text(strings.Repeat("ab", 1<<20)))
	b, e := codec.Encode(v)
	n, f := codec.Size(v)
	if want := 2 + (1 + 3 + 2<<20) + (1 + 4 + 2<<20); e != api.OK || f != api.OK || n != want || len(b) != want {
		t.Fatal(e, f, n, len(b), want)
	}
	if x, e := codec.Decode(b); e != api.OK || !codec.Same(x, v) {
		t.Error(e)
	}
	if x, e := codec.Decode(b[:len(b)-1]); e != api.ErrCode || !codec.Same(x, api.Value{}) {
		t.Error(e)
	}
}

// P1.1, P1.2: calls change neither their arguments nor earlier results.
func TestPure(t *testing.T) {
	v := list(num(100), text("ab"), list(num(-3)))
	a, _ := codec.Encode(v)
	x, _ := codec.Decode(a)
	codec.Encode(list(num(7), text("cd"), list(num(8))))
	codec.Decode([]byte{3, 2, 1, 6, 2, 1, 97})
	if !bytes.Equal(a, encodingOf(v)) || !codec.Same(x, v) || !codec.Same(v, list(num(100), text("ab"), list(num(-3)))) {
		t.Error(a, x, v)
	}
	whole := []byte{1, 0, 9, 9}
	if _, e := codec.Decode(whole[:2]); e != api.OK || !bytes.Equal(whole, []byte{1, 0, 9, 9}) {
		t.Error(whole, e)
	}
}
