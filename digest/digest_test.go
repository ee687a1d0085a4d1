package digest_test

import (
	"bytes"
	"crypto/sha256"
	"encoding/hex"
	"math"
	"slices"
	"strings"
	"testing"

	"podium/api"
	"podium/digest"
)

// filled returns n bytes that differ from their neighbours.
func filled(n int) []byte {
	b := make([]byte, n)
	for i := range b {
		b[i] = byte(i*131 + i/256*17 + 7)
	}
	return b
}

// list returns n different digests.
func list(n int) []api.Digest {
	l := make([]api.Digest, n)
	for i := range l {
		l[i] = sha256.Sum256([]byte{byte(i), byte(i >> 8), byte(i >> 16)})
	}
	return l
}

// tagged follows the definition of Tagged with the hash function of Go.
func tagged(tag string, parts ...[]byte) api.Digest {
	t := sha256.Sum256([]byte(tag))
	return sha256.Sum256(append(t[:], bytes.Join(parts, nil)...))
}

func leaf(d api.Digest) api.Digest { return tagged("leaf", d[:]) }

func node(a, b api.Digest) api.Digest { return tagged("node", a[:], b[:]) }

// firstPart doubles, as the definition of k reads.
func firstPart(n int) int {
	k := 1
	for 2*k < n {
		k *= 2
	}
	return k
}

func treeOf(l []api.Digest) api.Digest {
	switch len(l) {
	case 0:
		return tagged("empty")
	case 1:
		return leaf(l[0])
	}
	k := firstPart(len(l))
	return node(treeOf(l[:k]), treeOf(l[k:]))
}

func pathOf(l []api.Digest, at int) []api.Digest {
	if len(l) == 1 {
		return nil
	}
	k := firstPart(len(l))
	if at < k {
		return append(pathOf(l[:k], at), treeOf(l[k:]))
	}
	return append(pathOf(l[k:], at-k), treeOf(l[:k]))
}

func isZero(d api.Digest) bool { return d == api.Digest{} }

// P2.1: hashes that are known.
func TestSumKnown(t *testing.T) {
	for i, x := range []struct{ s, want string }{
		{"", "e3b0c44298fc1c149afbf4c8996fb92427ae41e4649b934ca495991b7852b855"},
		{"abc", "ba7816bf8f01cfea414140de5dae2223b00361a396177a9cb410ff61f20015ad"},
		{"abcdbcdecdefdefgefghfghighijhijkijkljklmklmnlmnomnopnopq", "248d6a61d20638b8e5c026930c3e6039a33ce45964ff2167f6ecedd419db06c1"},
		{
			"abcdefghbcdefghicdefghijdefghijkefghijklfghijklmghijklmnhijklmnoijklmnopjklmnopqklmnopqrlmnopqrsmnopqrstnopqrstu",
			"cf5b16a778af8380036ce59e7b0492370b249b11e8f07a51afac45037afee9d1",
		},
		{strings.Repeat("a", 1000000), "cdc76e5c9914fb9281a1c7e284d73e67f1809a48a497200e046d39ccc7112cd0"},
	} {
		d := digest.Sum([]byte(x.s))
		if got := hex.EncodeToString(d[:]); got != x.want {
			t.Error(i, got)
		}
	}
	if digest.Sum(nil) != digest.Sum([]byte{}) {
		t.Error("nil and empty")
	}
}

// P2.1: hashes of all lengths around the ends of blocks, and of bytes that are all 0 or all 255.
func TestSumLengths(t *testing.T) {
	for n := range 330 {
		for i, b := range [][]byte{filled(n), make([]byte, n), bytes.Repeat([]byte{255}, n)} {
			if digest.Sum(b) != sha256.Sum256(b) {
				t.Error(n, i)
			}
		}
	}
	for _, n := range []int{4095, 4096, 4097, 8191, 8192, 1<<16 - 9, 1<<16 - 8, 1 << 16, 1<<21 + 55, 1<<21 + 56} {
		if b := filled(n); digest.Sum(b) != sha256.Sum256(b) {
			t.Error(n)
		}
	}
}

// P2.1: each bit of the bytes counts.
func TestSumBits(t *testing.T) {
	b := filled(130)
	for i := range 8 * len(b) {
		b[i/8] ^= 1 << (i % 8)
		if digest.Sum(b) != sha256.Sum256(b) {
			t.Error(i)
		}
	}
}

// P2.1: Tagged hashes the digest of the tag, followed by the bytes.
func TestTagged(t *testing.T) {
	inner := digest.Sum(nil)
	if digest.Tagged("", nil) != digest.Sum(inner[:]) || digest.Tagged("", []byte{}) != digest.Sum(inner[:]) {
		t.Error("no tag and no bytes")
	}
	for _, tag := range []string{"", "a", "leaf", "node", "\x00", "\xff\xfe", "é", strings.Repeat("x", 64), strings.Repeat("x", 1000)} {
		for _, n := range []int{0, 1, 22, 23, 24, 31, 32, 33, 64, 87, 88, 500} {
			if b := filled(n); digest.Tagged(tag, b) != tagged(tag, b) {
				t.Errorf("%q %d", tag, n)
			}
		}
	}
	if digest.Tagged("ab", []byte("c")) == digest.Tagged("a", []byte("bc")) {
		t.Error("the tag ends where the bytes begin")
	}
}

// P2.2: digests of lists of no, one and more elements.
func TestTree(t *testing.T) {
	l := list(7)
	ab, cd, ef := node(leaf(l[0]), leaf(l[1])), node(leaf(l[2]), leaf(l[3])), node(leaf(l[4]), leaf(l[5]))
	for n, want := range []api.Digest{
		tagged("empty"),
		leaf(l[0]),
		ab,
		node(ab, leaf(l[2])),
		node(ab, cd),
		node(node(ab, cd), leaf(l[4])),
		node(node(ab, cd), ef),
		node(node(ab, cd), node(ef, leaf(l[6]))),
	} {
		if digest.Tree(l[:n]) != want {
			t.Error(n)
		}
	}
	if digest.Tree([]api.Digest{}) != digest.Tree(nil) {
		t.Error("nil and empty")
	}
	for _, n := range []int{8, 9, 15, 16, 17, 31, 32, 33, 64, 65, 100, 127, 128, 129, 1000, 1024, 1025} {
		if l := list(n); digest.Tree(l) != treeOf(l) {
			t.Error(n)
		}
	}
}

// P2.2: the order of a list, its length and each of its elements count.
func TestTreeDistinguishes(t *testing.T) {
	l := list(6)
	want := digest.Tree(l)
	for i := range l {
		other := slices.Clone(l)
		other[i][31] ^= 1
		if digest.Tree(other) == want || digest.Tree(l[:i]) == want {
			t.Error(i)
		}
		for k := range i {
			other := slices.Clone(l)
			other[i], other[k] = other[k], other[i]
			if digest.Tree(other) == want {
				t.Error(i, k)
			}
		}
	}
	same := []api.Digest{l[0], l[0]}
	if digest.Tree(same) == digest.Tree(same[:1]) || digest.Tree(same) == digest.Tree([]api.Digest{l[0], l[0], l[0]}) {
		t.Error("equal elements")
	}
}

// P2.2: paths of elements of short lists, by hand.
func TestPath(t *testing.T) {
	l := list(5)
	x := make([]api.Digest, len(l))
	for i, d := range l {
		x[i] = leaf(d)
	}
	ab, cd := node(x[0], x[1]), node(x[2], x[3])
	for i, c := range []struct {
		at, n int
		want  []api.Digest
	}{
		{0, 1, nil},
		{0, 2, []api.Digest{x[1]}},
		{1, 2, []api.Digest{x[0]}},
		{0, 3, []api.Digest{x[1], x[2]}},
		{1, 3, []api.Digest{x[0], x[2]}},
		{2, 3, []api.Digest{ab}},
		{1, 4, []api.Digest{x[0], cd}},
		{2, 4, []api.Digest{x[3], ab}},
		{3, 5, []api.Digest{x[2], ab, x[4]}},
		{4, 5, []api.Digest{node(ab, cd)}},
	} {
		if p, e := digest.Path(l[:c.n], c.at); e != api.OK || !slices.Equal(p, c.want) {
			t.Error(i, len(p), e)
		}
	}
}

// P2.2: no element of a list has an index outside of it.
func TestPathRefuses(t *testing.T) {
	for _, n := range []int{0, 1, 2, 5, 8} {
		for _, at := range []int{math.MinInt, -n - 1, -1, n, n + 1, 1 << 40, math.MaxInt} {
			if p, e := digest.Path(list(n), at); e != api.ErrArg || len(p) > 0 {
				t.Error(n, at, e)
			}
		}
	}
	if p, e := digest.Path(nil, 0); e != api.ErrArg || len(p) > 0 {
		t.Error(e)
	}
}

// P2.2, P2.4: the path of each element of many lists is that of the definition, and leads to the digest of the list.
func TestClimbOfPath(t *testing.T) {
	for _, n := range []int{1, 2, 3, 4, 5, 6, 7, 8, 9, 10, 11, 12, 13, 14, 15, 16, 17, 18, 31, 32, 33, 50, 63, 64, 65, 100} {
		l := list(n)
		want := treeOf(l)
		for i := range l {
			p, e := digest.Path(l, i)
			if e != api.OK || !slices.Equal(p, pathOf(l, i)) {
				t.Error(n, i, e)
			}
			if root, e := digest.Climb(l[i], i, n, p); e != api.OK || root != want {
				t.Error(n, i, e)
			}
		}
	}
}

// P2.2: with other digests, or at another place, a path leads elsewhere.
func TestClimbElsewhere(t *testing.T) {
	l := list(8)
	want := digest.Tree(l)
	for i := range l {
		p, _ := digest.Path(l, i)
		for k := range l {
			if root, e := digest.Climb(l[i], k, 8, p); e != api.OK || (root == want) != (i == k) {
				t.Error("place", i, k, e)
			}
			if root, e := digest.Climb(l[k], i, 8, p); e != api.OK || (root == want) != (i == k) {
				t.Error("element", i, k, e)
			}
		}
		for k := range p {
			wrong := slices.Clone(p)
			wrong[k][0] ^= 128
			if root, e := digest.Climb(l[i], i, 8, wrong); e != api.OK || root == want {
				t.Error("path", i, k, e)
			}
		}
	}
}

// P2.2: Climb accepts a path by its length alone.
func TestClimbLengths(t *testing.T) {
	for n := 1; n <= 33; n++ {
		l := list(n)
		for at := range n {
			right := len(pathOf(l, at))
			for size := range 8 {
				root, e := digest.Climb(l[at], at, n, list(size))
				if size == right && (e != api.OK || isZero(root)) || size != right && (e != api.ErrArg || !isZero(root)) {
					t.Error(n, at, size, e)
				}
			}
		}
	}
}

// P2.2: numbers of elements, indices and paths for which there is no list.
func TestClimbRefuses(t *testing.T) {
	const most = 1 << 40
	for i, x := range []struct{ at, n, path int }{
		{0, 0, 0},
		{0, -1, 0},
		{-1, -1, 0},
		{-2, -1, 0},
		{0, math.MinInt, 0},
		{-1, 1, 0},
		{1, 1, 0},
		{-1, 2, 1},
		{2, 2, 1},
		{math.MinInt, 2, 1},
		{math.MaxInt, 2, 1},
		{0, 1, 1},
		{0, 2, 0},
		{0, 2, 2},
		{0, 5, 2},
		{0, 5, 4},
		{4, 5, 0},
		{4, 5, 3},
		{0, most, 39},
		{0, most, 41},
		{most - 1, most, 39},
		{most - 1, most, 41},
		{-1, most, 40},
		{most, most, 40},
		{0, most + 1, 40},
		{0, most + 1, 41},
		{most, most + 1, 1},
		{0, math.MaxInt, 63},
		{math.MaxInt - 1, math.MaxInt, 62},
		{0, most - 1, 39},
		{most - 2, most - 1, 40},
		{most / 2, most/2 + 1, 0},
		{most / 2, most/2 + 1, 2},
		{most/2 - 1, most/2 + 1, 1},
	} {
		if root, e := digest.Climb(list(1)[0], x.at, x.n, list(x.path)); e != api.ErrArg || !isZero(root) {
			t.Error(i, e)
		}
	}
}

// P2.2, P2.4: paths in lists that are too long to be written have at most 40 elements, from the leaf to the root.
func TestClimbFar(t *testing.T) {
	const most = 1 << 40
	l := list(41)
	d, p := l[40], l[:40]
	// sides says, from the leaf to the root, whether the element is in the first part.
	for i, x := range []struct {
		at, n int
		sides func(level int) (first bool)
		path  []api.Digest
	}{
		{0, most, func(int) bool { return true }, p},
		{most - 1, most, func(int) bool { return false }, p},
		{0xa5a5a5a5a5, most, func(level int) bool { return 0xa5a5a5a5a5>>level&1 == 0 }, p},
		{most - 2, most - 1, func(int) bool { return false }, p[:39]},
		{0, most - 1, func(int) bool { return true }, p},
		{most / 2, most/2 + 1, func(int) bool { return false }, p[:1]},
		{most/2 - 1, most/2 + 1, func(level int) bool { return level == 39 }, p},
		{0, most/2 + 1, func(int) bool { return true }, p},
	} {
		want := leaf(d)
		for level, other := range x.path {
			if x.sides(level) {
				want = node(want, other)
			} else {
				want = node(other, want)
			}
		}
		if root, e := digest.Climb(d, x.at, x.n, x.path); e != api.OK || root != want {
			t.Error(i, e)
		}
	}
}

// P2.3: the next end of a chain has both digests, in this order, under its tag.
func TestChain(t *testing.T) {
	var end api.Digest
	if digest.Chain(end, end) != tagged("chain", make([]byte, 64)) {
		t.Error("zero digests")
	}
	for i, d := range list(20) {
		next := digest.Chain(end, d)
		if next != tagged("chain", end[:], d[:]) || next == digest.Chain(d, end) {
			t.Error(i)
		}
		end = next
	}
	l := list(3)
	a := digest.Chain(digest.Chain(l[0], l[1]), l[2])
	if a == digest.Chain(digest.Chain(l[0], l[2]), l[1]) || a == digest.Chain(l[0], l[2]) || digest.Chain(l[0], l[1]) == node(l[0], l[1]) {
		t.Error("different chains")
	}
}

// P2.4: the digest of a list is that of a node of its two parts.
func TestTwoParts(t *testing.T) {
	l := list(70)
	for n := 2; n <= len(l); n++ {
		a, b := digest.Tree(l[:firstPart(n)]), digest.Tree(l[firstPart(n):n])
		if digest.Tree(l[:n]) != digest.Tagged("node", append(a[:], b[:]...)) {
			t.Error(n)
		}
	}
}

// P2.4: an element that is added to a list whose length is a power of 2 makes a node of the old digest and the new leaf.
func TestOneMore(t *testing.T) {
	l := list(257)
	for n := 1; n < len(l); n *= 2 {
		if digest.Tree(l[:n+1]) != node(digest.Tree(l[:n]), leaf(l[n])) {
			t.Error(n)
		}
	}
}

// P2.2, P2.4: the longest lists of hashes that podium keeps.
func TestLarge(t *testing.T) {
	l := list(api.MaxLeaves + 1)
	want := digest.Tree(l)
	if want != node(digest.Tree(l[:api.MaxLeaves]), leaf(l[api.MaxLeaves])) {
		t.Error("tree")
	}
	for _, at := range []int{12345, api.MaxLeaves} {
		p, e := digest.Path(l, at)
		root, f := digest.Climb(l[at], at, len(l), p)
		if e != api.OK || f != api.OK || root != want || len(p) > 40 {
			t.Error(at, e, f, len(p))
		}
	}
}

// P2.1 to P2.3: calls change neither their arguments, nor the bytes and digests behind them, nor earlier results.
func TestPure(t *testing.T) {
	b := filled(200)
	for _, n := range []int{0, 3, 55, 56, 64, 120} {
		digest.Sum(b[:n])
		digest.Tagged("x", b[:n])
	}
	if !bytes.Equal(b, filled(200)) {
		t.Error("bytes")
	}
	l := list(20)
	first, _ := digest.Path(l[:11], 4)
	kept := slices.Clone(first)
	for at := range 11 {
		p, _ := digest.Path(l[:11], at)
		digest.Climb(l[at], at, 11, p)
		digest.Tree(l[:at])
		digest.Chain(l[at], l[at+1])
	}
	digest.Climb(l[0], 0, 4, l[5:7])
	if !slices.Equal(l, list(20)) || !slices.Equal(first, kept) {
		t.Error("digests")
	}
}
